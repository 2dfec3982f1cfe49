/-
  Several texts of the proof in one (each says below what it holds): HighestLevelLaw.
-/
import Derived.Test.YtdfnjfelmfccjaaDoorLvg2
import Derived.Test.YtdfnjfelmfccjaaDoorLvg4
import Derived.Test.YtdfnjfelmfccjaaDoorLvg7
/- HighestLevelLaw: The walk of the law that HighestLevel answers as its model does. -/
namespace Go.Proofs.YtdfnjfelmfccjaaDoor
open Go Go.RowKit

set_option maxRecDepth 100000 in
set_option maxHeartbeats 2000000 in
theorem lawHighestLevel {C : Nat → Prop} (t : Tm) (v : Value) (w : World) (hka : KA w) (h : TM w C t v) (hf : t.fit) :
    Calls Tryd.prog 8 #[v] w fun e w' => e = .returned (.bool true) ∧ Below w.heap.size w w' := by
  have HKA := Lib.hid (fun (w' : World) (hb : Below w.heap.size w w') => hka.below hb)
  clear hka
  have HT := Lib.hid (fun w' (hb : Below w.heap.size w w') => h.keep hb)
  obtain ⟨tp, tc, rp, rc, p, c, rfl, _⟩ := h
  have HB0 := Lib.hid (al_below w (.cells (tmC t tp tc rp rc p c) 27))
  have HX0 := Lib.hid (Bx9.new w t tp tc rp rc p c 27)
  go_enter Tryd.func8, Tryd.ntmps8
  go_wp2_with fail
  refine (szM_any (HT.out _ HB0.out) hf 1048576 (by omega) (by omega)).mono ?_
  rintro e w1 ⟨r, hr, rfl, hb1⟩
  have HX1 := Lib.hid (HX0.out.keep hb1)
  have HB1 := Lib.hid (HB0.out.trans (hb1.mono HB0.out.size))
  have HR := Lib.hid hr
  clear hr hb1
  by_cases h0 : r < 0
  · go_wp2_with fail
    go_ret
    exact ⟨rfl, HB1.out⟩
  have hn : t.wt ≤ 1048576 := by have := HR.out; unfold SzEnds at this; omega
  have hn2 : t.wt ≤ 2097152 := by omega
  obtain ⟨g0, g1, g2, g3, g4, g5, g6, g7, g8⟩ := HX1.out
  go_wp2_with fail
  refine (toM_any (HT.out _ HB1.out) hn).mono ?_
  rintro e w2 ⟨v1, rfl, ho1, hb2⟩
  have HO1 := Lib.hid ho1
  have HB2 := Lib.hid (HB1.out.trans (hb2.mono HB1.out.size))
  have HX2 := Lib.hid (HX1.out.keep hb2)
  clear ho1 hb2 g0 g1 g2 g3 g4 g5 g6 g7 g8
  go_wp2_with fail
  refine (highS_at HO1.out.tm hn2).mono ?_
  rintro e w3 ⟨r1, hr1, rfl, hb3⟩
  have HB3 := Lib.hid (HB2.out.trans (hb3.mono HB2.out.size))
  have HX3 := Lib.hid (HX2.out.keep hb3)
  have HR1 := Lib.hid hr1
  clear hb3 hr1
  obtain ⟨g0, g1, g2, g3, g4, g5, g6, g7, g8⟩ := HX3.out
  go_wp2_with fail
  refine (toM_any (HT.out _ HB3.out) hn).mono ?_
  rintro e w4 ⟨v2, rfl, ho2, hb4⟩
  have HY := Lib.hid (fun w' (hb : Below w4.heap.size w4 w') => ho2.tm.keep hb)
  obtain ⟨tp2, tc2, rp2, rc2, p2, c2, rfl, _⟩ := ho2
  have HB4 := Lib.hid (HB3.out.trans (hb4.mono HB3.out.size))
  have HX4 := Lib.hid (HX3.out.keep hb4)
  have HBX := Lib.hid (al_below w4 (.cells (tmC t tp2 tc2 rp2 rc2 p2 c2) 36))
  have HZ4 := Lib.hid (Bx9.new w4 t tp2 tc2 rp2 rc2 p2 c2 36)
  clear hb4 g0 g1 g2 g3 g4 g5 g6 g7 g8
  go_wp2_with fail
  refine (highI_any (HKA.out _ (HB4.out.trans (HBX.out.mono HB4.out.size))) (HY.out _ HBX.out) hn2).mono ?_
  rintro e w5 ⟨r2, hr2, rfl, hb5⟩
  have HZ5 := Lib.hid (HZ4.out.keep hb5)
  have hbb := below_box hb5
  have HB5 := Lib.hid (HB4.out.trans (hbb.mono HB4.out.size))
  have HX5 := Lib.hid (HX4.out.keep hbb)
  have HXB := Lib.hid hbb
  obtain rfl : r2 = r1 := by first | exact hr2.trans HR1.out.symm | exact Bool.eq_iff_iff.2 (hr2.trans HR1.out.symm) | exact hr2.one HR1.out
  clear hb5 hbb hr2 HR1
  obtain ⟨g0, g1, g2, g3, g4, g5, g6, g7, g8⟩ := HX5.out
  obtain ⟨d0, d1, d2, d3, d4, d5, d6, d7, d8⟩ := HZ5.out
  go_wp2_with fail
  go_region_held3 (fun w' => w'.cell? ⟨w.heap.size, 0, none⟩ = some (.int .i64 t.kind) ∧ w'.cell? ⟨w.heap.size, 1, none⟩ = some (.string t.name) ∧ w'.cell? ⟨w.heap.size, 2, none⟩ = some (.string t.other) ∧ w'.cell? ⟨w.heap.size, 3, none⟩ = some (.int .i64 t.n) ∧ w'.cell? ⟨w.heap.size, 4, none⟩ = some (.int .i64 t.ty.kind) ∧ w'.cell? ⟨w.heap.size, 5, none⟩ = some (.slice tp t.ty.args.length tc) ∧ w'.cell? ⟨w.heap.size, 6, none⟩ = some (.int .i64 t.res.kind) ∧ w'.cell? ⟨w.heap.size, 7, none⟩ = some (.slice rp t.res.args.length rc) ∧ w'.cell? ⟨w.heap.size, 8, none⟩ = some (.slice p t.args.length c) ∧ w'.cell? ⟨w4.heap.size, 0, none⟩ = some (.int .i64 t.kind) ∧ w'.cell? ⟨w4.heap.size, 1, none⟩ = some (.string t.name) ∧ w'.cell? ⟨w4.heap.size, 2, none⟩ = some (.string t.other) ∧ w'.cell? ⟨w4.heap.size, 3, none⟩ = some (.int .i64 t.n) ∧ w'.cell? ⟨w4.heap.size, 4, none⟩ = some (.int .i64 t.ty.kind) ∧ w'.cell? ⟨w4.heap.size, 5, none⟩ = some (.slice tp2 t.ty.args.length tc2) ∧ w'.cell? ⟨w4.heap.size, 6, none⟩ = some (.int .i64 t.res.kind) ∧ w'.cell? ⟨w4.heap.size, 7, none⟩ = some (.slice rp2 t.res.args.length rc2) ∧ w'.cell? ⟨w4.heap.size, 8, none⟩ = some (.slice p2 t.args.length c2) ∧ Below w5.heap.size w5 w')
    (first
      | (go_keep; done)
      | exact ⟨g0, g1, g2, g3, g4, g5, g6, g7, g8, d0, d1, d2, d3, d4, d5, d6, d7, d8, (Below.refl _ _).drew⟩
      | exact keep18 hb7 (by assumption)
      | exact keep18 hb6 (by assumption))
    (first
      | (go_at_call 11; refine (toM_any (HT.out _ (HB5.out.trans (((Below.refl _ _).drew).mono HB5.out.size))) hn).mono ?_; rintro e w6 ⟨v3, rfl, ho3, hb6⟩)
      | (go_at_call 14; refine (eqM_any (HY.out _ (HXB.out.trans (((Below.refl _ _).drew.trans hb6).mono HXB.out.size))) ho3.tm).mono ?_; rintro e w7 ⟨b7, he7, rfl, hb7⟩))
  rename_i hH
  have HBL := Lib.hid (HB5.out.trans (hH.2.2.2.2.2.2.2.2.2.2.2.2.2.2.2.2.2.2.mono HB5.out.size))
  obtain rfl : b7 = true := by simpa using he7
  clear hH
  go_wp2_with fail
  go_ret
  exact ⟨rfl, HBL.out⟩
end Go.Proofs.YtdfnjfelmfccjaaDoor
