/-
  The walk of the law that EqualTerm answers as its model does.
-/
import Derived.Test.YtnciibngcaajgaaOpenM
import Derived.Test.YtnciibngcaajgaaTmSpecEq
import Derived.Test.YtnciibngcaajgaaTmCopy2
import Derived.Test.YtnciibngcaajgaaEqM
namespace Go.Proofs.Ytnciibngcaajgaa
open Go Go.RowKit

set_option maxRecDepth 100000 in
set_option maxHeartbeats 4000000 in
theorem lawEqualTerm {C C' : Nat → Prop} (t u : Tm) (v x : Value) (w : World) (h : TM w C t v) (hf : t.fit) (h2 : TM w C' u x) (hf2 : u.fit) :
    Calls Try.prog 15 #[v, x] w fun e w' => e = .returned (.bool true) ∧ Below w.heap.size w w' := by
  have HT := Lib.hid (fun w' (hb : Below w.heap.size w w') => h.keep hb)
  have HU := Lib.hid (fun w' (hb : Below w.heap.size w w') => h2.keep hb)
  obtain ⟨tp, tc, rp, rc, p, c, rfl, _⟩ := h
  obtain ⟨tp2, tc2, rp2, rc2, p2, c2, rfl, _⟩ := h2
  have hb1 := al_below w (.cells (tmC t tp tc rp rc p c) 50)
  have hb2 := al_below (w.alloc (.cells (tmC t tp tc rp rc p c) 50)) (.cells (tmC u tp2 tc2 rp2 rc2 p2 c2) 50)
  have hx2 := Bx9.new (w.alloc (.cells (tmC t tp tc rp rc p c) 50)) u tp2 tc2 rp2 rc2 p2 c2 50
  rw [World.size_alloc] at hx2
  have HA0 := Lib.hid ((Bx9.new w t tp tc rp rc p c 50).keep hb2)
  have HE0 := Lib.hid hx2
  have HB0 := Lib.hid (hb1.trans (hb2.mono (by simp)))
  clear hb1 hb2 hx2
  go_enter Try.func15, Try.ntmps15
  go_wp2_with fail
  refine (szM_any (HT.out _ HB0.out) hf 1048576 (by omega) (by omega)).mono ?_
  rintro e w1 ⟨r, hr, rfl, hb1⟩
  have HA1 := Lib.hid (HA0.out.keep hb1)
  have HE1 := Lib.hid (HE0.out.keep hb1)
  have HB1 := Lib.hid (HB0.out.trans (hb1.mono HB0.out.size))
  have HR := Lib.hid hr
  have hrr := hr.range (by omega)
  clear hr hb1
  by_cases h0 : r < 0
  · go_wp2_with fail
    go_ret
    exact ⟨rfl, HB1.out⟩
  have hn : t.wt ≤ 1048576 := by have := HR.out; unfold SzEnds at this; omega
  obtain ⟨d0, d1, d2, d3, d4, d5, d6, d7, d8⟩ := HE1.out
  go_wp2_with fail
  refine (szM_any (HU.out _ HB1.out) hf2 r (by omega) (by omega)).mono ?_
  rintro e w2 ⟨r2, hr2, rfl, hb2⟩
  have HA2 := Lib.hid (HA1.out.keep hb2)
  have HE2 := Lib.hid (HE1.out.keep hb2)
  have HB2 := Lib.hid (HB1.out.trans (hb2.mono HB1.out.size))
  have HR2 := Lib.hid hr2
  clear hr2 hb2 d0 d1 d2 d3 d4 d5 d6 d7 d8
  by_cases h02 : r2 < 0
  · go_wp2_with fail
    go_ret
    exact ⟨rfl, HB2.out⟩
  have hn2 : u.wt ≤ 1048576 := by have := HR2.out; unfold SzEnds at this; omega
  obtain ⟨g0, g1, g2, g3, g4, g5, g6, g7, g8⟩ := HA2.out
  obtain ⟨d0, d1, d2, d3, d4, d5, d6, d7, d8⟩ := HE2.out
  go_wp2_with fail
  go_region_held3 (fun w' => w'.cell? ⟨w.heap.size, 0, none⟩ = some (.int .i64 t.kind) ∧ w'.cell? ⟨w.heap.size, 1, none⟩ = some (.string t.name) ∧ w'.cell? ⟨w.heap.size, 2, none⟩ = some (.string t.other) ∧ w'.cell? ⟨w.heap.size, 3, none⟩ = some (.int .i64 t.n) ∧ w'.cell? ⟨w.heap.size, 4, none⟩ = some (.int .i64 t.ty.kind) ∧ w'.cell? ⟨w.heap.size, 5, none⟩ = some (.slice tp t.ty.args.length tc) ∧ w'.cell? ⟨w.heap.size, 6, none⟩ = some (.int .i64 t.res.kind) ∧ w'.cell? ⟨w.heap.size, 7, none⟩ = some (.slice rp t.res.args.length rc) ∧ w'.cell? ⟨w.heap.size, 8, none⟩ = some (.slice p t.args.length c) ∧ w'.cell? ⟨w.heap.size + 1, 0, none⟩ = some (.int .i64 u.kind) ∧ w'.cell? ⟨w.heap.size + 1, 1, none⟩ = some (.string u.name) ∧ w'.cell? ⟨w.heap.size + 1, 2, none⟩ = some (.string u.other) ∧ w'.cell? ⟨w.heap.size + 1, 3, none⟩ = some (.int .i64 u.n) ∧ w'.cell? ⟨w.heap.size + 1, 4, none⟩ = some (.int .i64 u.ty.kind) ∧ w'.cell? ⟨w.heap.size + 1, 5, none⟩ = some (.slice tp2 u.ty.args.length tc2) ∧ w'.cell? ⟨w.heap.size + 1, 6, none⟩ = some (.int .i64 u.res.kind) ∧ w'.cell? ⟨w.heap.size + 1, 7, none⟩ = some (.slice rp2 u.res.args.length rc2) ∧ w'.cell? ⟨w.heap.size + 1, 8, none⟩ = some (.slice p2 u.args.length c2) ∧ Below w2.heap.size w2 w')
    (first
      | (go_keep; done)
      | exact ⟨g0, g1, g2, g3, g4, g5, g6, g7, g8, d0, d1, d2, d3, d4, d5, d6, d7, d8, (Below.refl _ _).drew⟩
      | exact keep18 hb5 (by assumption)
      | exact keep18 hb4 (by assumption)
      | exact keep18 hb3 (by assumption))
    (first
      | (go_at_call_of 48 (Value.agg #[.int .i64 t.kind, .string t.name, .string t.other, .int .i64 t.n, .int .i64 t.ty.kind, .slice tp t.ty.args.length tc, .int .i64 t.res.kind, .slice rp t.res.args.length rc, .slice p t.args.length c]); refine (toM_any (HT.out _ (HB2.out.trans (((Below.refl _ _).drew).mono HB2.out.size))) hn).mono ?_; rintro e w3 ⟨v3, rfl, ho3, hb3⟩)
      | (go_at_call_of 48 (Value.agg #[.int .i64 u.kind, .string u.name, .string u.other, .int .i64 u.n, .int .i64 u.ty.kind, .slice tp2 u.ty.args.length tc2, .int .i64 u.res.kind, .slice rp2 u.res.args.length rc2, .slice p2 u.args.length c2]); refine (toM_any (HU.out _ (HB2.out.trans (((Below.refl _ _).drew.trans hb3).mono HB2.out.size))) hn2).mono ?_; rintro e w4 ⟨v4, rfl, ho4, hb4⟩)
      | (go_at_call 53; refine (eqSpM_at (ho3.tm.keep hb4) ho4.tm).mono ?_; rintro e w5 ⟨q1, hq1, rfl, hb5⟩))
  rename_i hH
  have HB5 := Lib.hid (HB2.out.trans (hH.2.2.2.2.2.2.2.2.2.2.2.2.2.2.2.2.2.2.mono HB2.out.size))
  have HA5 := Lib.hid (HA2.out.keep hH.2.2.2.2.2.2.2.2.2.2.2.2.2.2.2.2.2.2)
  have HE5 := Lib.hid (HE2.out.keep hH.2.2.2.2.2.2.2.2.2.2.2.2.2.2.2.2.2.2)
  have HQ1 := Lib.hid hq1
  clear hH g0 g1 g2 g3 g4 g5 g6 g7 g8 d0 d1 d2 d3 d4 d5 d6 d7 d8 hq1 ho3 ho4 hb3 hb4 hb5 HA2 HE2
  obtain ⟨g0, g1, g2, g3, g4, g5, g6, g7, g8⟩ := HA5.out
  go_wp2_with fail
  refine (toM_any (HT.out _ HB5.out) hn).mono ?_
  rintro e w6 ⟨v6, rfl, ho6, hb6⟩
  have HX6 := Lib.hid (fun w' (hb : Below w6.heap.size w6 w') => ho6.tm.keep hb)
  obtain ⟨tp6, tc6, rp6, rc6, p6, c6, rfl, _⟩ := ho6
  have hbx6 := al_below w6 (.cells (tmC t tp6 tc6 rp6 rc6 p6 c6) 55)
  have HK6 := Lib.hid (Bx9.new w6 t tp6 tc6 rp6 rc6 p6 c6 55)
  have HB6 := Lib.hid (HB5.out.trans (hb6.mono HB5.out.size))
  have HBX6 := Lib.hid hbx6
  have HB6x := Lib.hid (HB6.out.trans (hbx6.mono HB6.out.size))
  have HA6 := Lib.hid ((HA5.out.keep hb6).keep hbx6)
  have HE6 := Lib.hid ((HE5.out.keep hb6).keep hbx6)
  clear hb6 hbx6 g0 g1 g2 g3 g4 g5 g6 g7 g8 HA5 HE5
  obtain ⟨d0, d1, d2, d3, d4, d5, d6, d7, d8⟩ := HE6.out
  go_wp2_with fail
  refine (toM_any (HU.out _ HB6x.out) hn2).mono ?_
  rintro e w7 ⟨v7, rfl, ho7, hb7⟩
  have HX7 := Lib.hid (fun w' (hb : Below w7.heap.size w7 w') => ho7.tm.keep hb)
  obtain ⟨tp7, tc7, rp7, rc7, p7, c7, rfl, _⟩ := ho7
  have hbx7 := al_below w7 (.cells (tmC u tp7 tc7 rp7 rc7 p7 c7) 55)
  have HK7 := Lib.hid (Bx9.new w7 u tp7 tc7 rp7 rc7 p7 c7 55)
  have HB67 := Lib.hid (HBX6.out.trans (hb7.mono HBX6.out.size))
  have HB7 := Lib.hid (HB6x.out.trans (hb7.mono HB6x.out.size))
  have HBX7 := Lib.hid hbx7
  have HB7x := Lib.hid (HB7.out.trans (hbx7.mono HB7.out.size))
  have HB67x := Lib.hid (HB67.out.trans (hbx7.mono HB67.out.size))
  have HK67 := Lib.hid ((HK6.out.keep hb7).keep hbx7)
  have HA7 := Lib.hid ((HA6.out.keep hb7).keep hbx7)
  have HE7 := Lib.hid ((HE6.out.keep hb7).keep hbx7)
  clear hb7 hbx7 d0 d1 d2 d3 d4 d5 d6 d7 d8 HA6 HE6 HK6
  obtain ⟨d0, d1, d2, d3, d4, d5, d6, d7, d8⟩ := HK67.out
  go_wp2_with fail
  refine (eqMI_any (HX6.out _ HB67x.out) (HX7.out _ HBX7.out) hn hn2).mono ?_
  rintro e w8 ⟨q2, hq2, rfl, hb8⟩
  have hqq : q2 = q1 := by
    rw [Bool.eq_iff_iff]
    exact hq2.trans HQ1.out.symm
  subst hqq
  have HK68 := Lib.hid (HK67.out.keep hb8)
  have HK78 := Lib.hid (HK7.out.keep hb8)
  have HA8 := Lib.hid (HA7.out.keep hb8)
  have HE8 := Lib.hid (HE7.out.keep hb8)
  have HB8 := Lib.hid (HB7x.out.trans (hb8.mono HB7x.out.size))
  have HX68 := Lib.hid (HB67x.out.trans (hb8.mono HB67x.out.size))
  have HX78 := Lib.hid (HBX7.out.trans (hb8.mono HBX7.out.size))
  clear hq2 hb8 d0 d1 d2 d3 d4 d5 d6 d7 d8 HK67 HK7 HA7 HE7 HQ1
  obtain ⟨d0, d1, d2, d3, d4, d5, d6, d7, d8⟩ := HK68.out
  obtain ⟨g0, g1, g2, g3, g4, g5, g6, g7, g8⟩ := HA8.out
  go_wp2_with fail
  go_region_held3 (fun w' => w'.cell? ⟨w.heap.size, 0, none⟩ = some (.int .i64 t.kind) ∧ w'.cell? ⟨w.heap.size, 1, none⟩ = some (.string t.name) ∧ w'.cell? ⟨w.heap.size, 2, none⟩ = some (.string t.other) ∧ w'.cell? ⟨w.heap.size, 3, none⟩ = some (.int .i64 t.n) ∧ w'.cell? ⟨w.heap.size, 4, none⟩ = some (.int .i64 t.ty.kind) ∧ w'.cell? ⟨w.heap.size, 5, none⟩ = some (.slice tp t.ty.args.length tc) ∧ w'.cell? ⟨w.heap.size, 6, none⟩ = some (.int .i64 t.res.kind) ∧ w'.cell? ⟨w.heap.size, 7, none⟩ = some (.slice rp t.res.args.length rc) ∧ w'.cell? ⟨w.heap.size, 8, none⟩ = some (.slice p t.args.length c) ∧ w'.cell? ⟨w6.heap.size, 0, none⟩ = some (.int .i64 t.kind) ∧ w'.cell? ⟨w6.heap.size, 1, none⟩ = some (.string t.name) ∧ w'.cell? ⟨w6.heap.size, 2, none⟩ = some (.string t.other) ∧ w'.cell? ⟨w6.heap.size, 3, none⟩ = some (.int .i64 t.n) ∧ w'.cell? ⟨w6.heap.size, 4, none⟩ = some (.int .i64 t.ty.kind) ∧ w'.cell? ⟨w6.heap.size, 5, none⟩ = some (.slice tp6 t.ty.args.length tc6) ∧ w'.cell? ⟨w6.heap.size, 6, none⟩ = some (.int .i64 t.res.kind) ∧ w'.cell? ⟨w6.heap.size, 7, none⟩ = some (.slice rp6 t.res.args.length rc6) ∧ w'.cell? ⟨w6.heap.size, 8, none⟩ = some (.slice p6 t.args.length c6) ∧ Below w8.heap.size w8 w')
    (first
      | (go_keep; done)
      | exact ⟨g0, g1, g2, g3, g4, g5, g6, g7, g8, d0, d1, d2, d3, d4, d5, d6, d7, d8, (Below.refl _ _).drew⟩
      | exact keep18 hb10 (by assumption)
      | exact keep18 hb9 (by assumption))
    (first
      | (go_at_call 48; refine (toM_any (HT.out _ (HB8.out.trans (((Below.refl _ _).drew).mono HB8.out.size))) hn).mono ?_; rintro e w9 ⟨v9, rfl, ho9, hb9⟩)
      | (go_at_call 50; refine (eqM_any (HX6.out _ (HX68.out.trans (((Below.refl _ _).drew.trans hb9).mono HX68.out.size))) ho9.tm).mono ?_; rintro e w10 ⟨b10, he10, rfl, hb10⟩))
  rename_i hH
  have HE10 := Lib.hid (HE8.out.keep hH.2.2.2.2.2.2.2.2.2.2.2.2.2.2.2.2.2.2)
  have HK710 := Lib.hid (HK78.out.keep hH.2.2.2.2.2.2.2.2.2.2.2.2.2.2.2.2.2.2)
  have HB10 := Lib.hid (HB8.out.trans (hH.2.2.2.2.2.2.2.2.2.2.2.2.2.2.2.2.2.2.mono HB8.out.size))
  have HX710 := Lib.hid (HX78.out.trans (hH.2.2.2.2.2.2.2.2.2.2.2.2.2.2.2.2.2.2.mono HX78.out.size))
  obtain rfl : b10 = true := by simpa using he10
  clear hH he10 hb9 hb10 ho9 g0 g1 g2 g3 g4 g5 g6 g7 g8 d0 d1 d2 d3 d4 d5 d6 d7 d8
  obtain ⟨g0, g1, g2, g3, g4, g5, g6, g7, g8⟩ := HE10.out
  obtain ⟨d0, d1, d2, d3, d4, d5, d6, d7, d8⟩ := HK710.out
  go_wp2_with fail
  go_region_held3 (fun w' => w'.cell? ⟨w.heap.size + 1, 0, none⟩ = some (.int .i64 u.kind) ∧ w'.cell? ⟨w.heap.size + 1, 1, none⟩ = some (.string u.name) ∧ w'.cell? ⟨w.heap.size + 1, 2, none⟩ = some (.string u.other) ∧ w'.cell? ⟨w.heap.size + 1, 3, none⟩ = some (.int .i64 u.n) ∧ w'.cell? ⟨w.heap.size + 1, 4, none⟩ = some (.int .i64 u.ty.kind) ∧ w'.cell? ⟨w.heap.size + 1, 5, none⟩ = some (.slice tp2 u.ty.args.length tc2) ∧ w'.cell? ⟨w.heap.size + 1, 6, none⟩ = some (.int .i64 u.res.kind) ∧ w'.cell? ⟨w.heap.size + 1, 7, none⟩ = some (.slice rp2 u.res.args.length rc2) ∧ w'.cell? ⟨w.heap.size + 1, 8, none⟩ = some (.slice p2 u.args.length c2) ∧ w'.cell? ⟨w7.heap.size, 0, none⟩ = some (.int .i64 u.kind) ∧ w'.cell? ⟨w7.heap.size, 1, none⟩ = some (.string u.name) ∧ w'.cell? ⟨w7.heap.size, 2, none⟩ = some (.string u.other) ∧ w'.cell? ⟨w7.heap.size, 3, none⟩ = some (.int .i64 u.n) ∧ w'.cell? ⟨w7.heap.size, 4, none⟩ = some (.int .i64 u.ty.kind) ∧ w'.cell? ⟨w7.heap.size, 5, none⟩ = some (.slice tp7 u.ty.args.length tc7) ∧ w'.cell? ⟨w7.heap.size, 6, none⟩ = some (.int .i64 u.res.kind) ∧ w'.cell? ⟨w7.heap.size, 7, none⟩ = some (.slice rp7 u.res.args.length rc7) ∧ w'.cell? ⟨w7.heap.size, 8, none⟩ = some (.slice p7 u.args.length c7) ∧ Below w10.heap.size w10 w')
    (first
      | (go_keep; done)
      | exact ⟨g0, g1, g2, g3, g4, g5, g6, g7, g8, d0, d1, d2, d3, d4, d5, d6, d7, d8, (Below.refl _ _).drew⟩
      | exact keep18 hb12 (by assumption)
      | exact keep18 hb11 (by assumption))
    (first
      | (go_at_call 48; refine (toM_any (HU.out _ (HB10.out.trans (((Below.refl _ _).drew).mono HB10.out.size))) hn2).mono ?_; rintro e w11 ⟨v11, rfl, ho11, hb11⟩)
      | (go_at_call 50; refine (eqM_any (HX7.out _ (HX710.out.trans (((Below.refl _ _).drew.trans hb11).mono HX710.out.size))) ho11.tm).mono ?_; rintro e w12 ⟨b12, he12, rfl, hb12⟩))
  rename_i hH
  have HBL := Lib.hid (HB10.out.trans (hH.2.2.2.2.2.2.2.2.2.2.2.2.2.2.2.2.2.2.mono HB10.out.size))
  obtain rfl : b12 = true := by simpa using he12
  clear hH
  go_wp2_with fail
  go_ret
  exact ⟨rfl, HBL.out⟩
end Go.Proofs.Ytnciibngcaajgaa

