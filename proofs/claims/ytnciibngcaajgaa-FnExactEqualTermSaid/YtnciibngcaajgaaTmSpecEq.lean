/-
  The contract of the model's EqualTerm.
-/
import Derived.Test.YtnciibngcaajgaaTmSpec
import Derived.Test.YtnciibngcaajgaaTmEq
import Derived.Test.YtnciibngcaajgaaSpecEq
namespace Go.Proofs.Ytnciibngcaajgaa
open Go Go.RowKit

theorem keep20 {w W w1 : World} {p0 p1 p2 p3 p4 p5 p6 p7 p8 p9 p10 p11 p12 p13 p14 p15 p16 p17 p18 p19 : Addr} {v0 v1 v2 v3 v4 v5 v6 v7 v8 v9 v10 v11 v12 v13 v14 v15 v16 v17 v18 v19 : Value} (hb1 : Below W.heap.size W w1) (h : W.cell? p0 = some v0 ∧ W.cell? p1 = some v1 ∧ W.cell? p2 = some v2 ∧ W.cell? p3 = some v3 ∧ W.cell? p4 = some v4 ∧ W.cell? p5 = some v5 ∧ W.cell? p6 = some v6 ∧ W.cell? p7 = some v7 ∧ W.cell? p8 = some v8 ∧ W.cell? p9 = some v9 ∧ W.cell? p10 = some v10 ∧ W.cell? p11 = some v11 ∧ W.cell? p12 = some v12 ∧ W.cell? p13 = some v13 ∧ W.cell? p14 = some v14 ∧ W.cell? p15 = some v15 ∧ W.cell? p16 = some v16 ∧ W.cell? p17 = some v17 ∧ W.cell? p18 = some v18 ∧ W.cell? p19 = some v19 ∧ Below w.heap.size w W) : w1.cell? p0 = some v0 ∧ w1.cell? p1 = some v1 ∧ w1.cell? p2 = some v2 ∧ w1.cell? p3 = some v3 ∧ w1.cell? p4 = some v4 ∧ w1.cell? p5 = some v5 ∧ w1.cell? p6 = some v6 ∧ w1.cell? p7 = some v7 ∧ w1.cell? p8 = some v8 ∧ w1.cell? p9 = some v9 ∧ w1.cell? p10 = some v10 ∧ w1.cell? p11 = some v11 ∧ w1.cell? p12 = some v12 ∧ w1.cell? p13 = some v13 ∧ w1.cell? p14 = some v14 ∧ w1.cell? p15 = some v15 ∧ w1.cell? p16 = some v16 ∧ w1.cell? p17 = some v17 ∧ w1.cell? p18 = some v18 ∧ w1.cell? p19 = some v19 ∧ Below w.heap.size w w1 := by
  obtain ⟨h0, h1, h2, h3, h4, h5, h6, h7, h8, h9, h10, h11, h12, h13, h14, h15, h16, h17, h18, h19, hz⟩ := h
  exact ⟨keepN hb1 h0, keepN hb1 h1, keepN hb1 h2, keepN hb1 h3, keepN hb1 h4, keepN hb1 h5, keepN hb1 h6, keepN hb1 h7, keepN hb1 h8, keepN hb1 h9, keepN hb1 h10, keepN hb1 h11, keepN hb1 h12, keepN hb1 h13, keepN hb1 h14, keepN hb1 h15, keepN hb1 h16, keepN hb1 h17, keepN hb1 h18, keepN hb1 h19, hz.trans (hb1.mono hz.size)⟩

set_option maxRecDepth 100000 in
set_option maxHeartbeats 4000000 in
theorem eqSpM_any {C C' : Nat → Prop} : ∀ (m : Nat) {t u : Tm} {tp rp p tp' rp' p' : Option Addr} {tc rc c tc' rc' c' : Nat} (w : World), t.nodes ≤ m → TM' w C t tp tc rp rc p c → TM' w C' u tp' tc' rp' rc' p' c' →
    Calls Try.prog 53 #[tmV t tp tc rp rc p c, tmV u tp' tc' rp' rc' p' c'] w (BoolRet (fun b => b = true ↔ t = u) w)
  | 0, t, u, tp, rp, p, tp', rp', p', tc, rc, c, tc', rc', c', w, hm, hT, hU => by rw [t.nodes_eq] at hm; omega
  | m + 1, t, u, tp, rp, p, tp', rp', p', tc, rc, c, tc', rc', c', w, hm, hT, hU => by
    have HT := Lib.hid hT
    have HU := Lib.hid hU
    have HM := Lib.hid hm
    have hlm := hT.args.len.1
    have hlm' := hU.args.len.1
    have hb1 := al_below w (.cells (tmC t tp tc rp rc p c) 55)
    have hb2 := al_below (w.alloc (.cells (tmC t tp tc rp rc p c) 55)) (.cells (tmC u tp' tc' rp' rc' p' c') 55)
    have hx2 := Bx9.new (w.alloc (.cells (tmC t tp tc rp rc p c) 55)) u tp' tc' rp' rc' p' c' 55
    rw [World.size_alloc] at hx2
    have HX1 := Lib.hid ((Bx9.new w t tp tc rp rc p c 55).keep hb2)
    have HX2 := Lib.hid hx2
    have HW := Lib.hid (show ∀ (kk nn : Int), kk = t.kind → nn = t.n → Below w.heap.size w ((w.alloc (.cells #[.int .i64 kk, .string t.name, .string t.other, .int .i64 nn, .int .i64 t.ty.kind, .slice tp t.ty.args.length tc, .int .i64 t.res.kind, .slice rp t.res.args.length rc, .slice p t.args.length c] 55)).alloc (.cells (tmC u tp' tc' rp' rc' p' c') 55)) ∧ Bx9 ((w.alloc (.cells #[.int .i64 kk, .string t.name, .string t.other, .int .i64 nn, .int .i64 t.ty.kind, .slice tp t.ty.args.length tc, .int .i64 t.res.kind, .slice rp t.res.args.length rc, .slice p t.args.length c] 55)).alloc (.cells (tmC u tp' tc' rp' rc' p' c') 55)) w.heap.size t tp tc rp rc p c ∧ Bx9 ((w.alloc (.cells #[.int .i64 kk, .string t.name, .string t.other, .int .i64 nn, .int .i64 t.ty.kind, .slice tp t.ty.args.length tc, .int .i64 t.res.kind, .slice rp t.res.args.length rc, .slice p t.args.length c] 55)).alloc (.cells (tmC u tp' tc' rp' rc' p' c') 55)) (w.heap.size + 1) u tp' tc' rp' rc' p' c' from fun kk nn e1 e2 => by
      subst e1 e2
      exact ⟨hb1.trans (hb2.mono (by simp)), HX1.out, HX2.out⟩)
    clear hT hU hm hb1 hb2 hx2 HX1 HX2
    go_enter Try.func53, Try.ntmps53
    by_cases hk : t.kind = u.kind
    rotate_left
    · go_wp2_with fail
      go_ret
      exact ⟨false, by simp; exact fun e => hk (by rw [e]), rfl, (HW.out _ _ rfl rfl).1⟩
    have hk1 : t.kind ≤ u.kind := by omega
    have hk2 : u.kind ≤ t.kind := by omega
    have HK := Lib.hid hk
    clear hk
    by_cases hn : t.name = u.name
    rotate_left
    · have hn1 := str_no hn
      have HN := Lib.hid hn
      clear hn
      go_wp2_with fail
      go_ret
      exact ⟨false, by simp; exact fun e => HN.out (by rw [e]), rfl, (HW.out _ _ HK.out.symm rfl).1⟩
    have hn1 := str_yes hn
    have HN := Lib.hid hn
    clear hn
    by_cases ho : t.other = u.other
    rotate_left
    · have ho1 := str_no ho
      have HO := Lib.hid ho
      clear ho
      go_wp2_with fail
      go_ret
      exact ⟨false, by simp; exact fun e => HO.out (by rw [e]), rfl, (HW.out _ _ HK.out.symm rfl).1⟩
    have ho1 := str_yes ho
    have HO := Lib.hid ho
    clear ho
    by_cases hi : t.n = u.n
    rotate_left
    · have HI := Lib.hid hi
      go_wp2_with fail
      go_ret
      exact ⟨false, by simp; exact fun e => HI.out (by rw [e]), rfl, (HW.out _ _ HK.out.symm rfl).1⟩
    obtain ⟨hb0, hx1, hx2⟩ := HW.out u.kind u.n HK.out.symm hi.symm
    have HB0 := Lib.hid hb0
    have HX1 := Lib.hid hx1
    have HX2 := Lib.hid hx2
    have HC3 := Lib.hid (eqSpT_any (C := C) (C' := C') (t := t.ty) (u := u.ty) (v := .agg #[.int .i64 t.ty.kind, .slice tp t.ty.args.length tc]) (x := .agg #[.int .i64 u.ty.kind, .slice tp' u.ty.args.length tc']) ⟨_, rfl, HT.out.ty.stays (.of_below HB0.out)⟩ ⟨_, rfl, HU.out.ty.stays (.of_below HB0.out)⟩)
    have hi1 : t.n ≤ u.n := by omega
    have hi2 : u.n ≤ t.n := by omega
    have HI := Lib.hid hi
    clear hi hb0 hx1 hx2 HW
    go_wp2_with fail
    refine HC3.out.mono ?_
    rintro e w3 ⟨r3, hr3, rfl, hb3⟩
    have HR3 := Lib.hid hr3
    have HB3 := Lib.hid (HB0.out.trans (hb3.mono HB0.out.size))
    have HX13 := Lib.hid (HX1.out.keep hb3)
    have HX23 := Lib.hid (HX2.out.keep hb3)
    clear hr3 hb3 HC3 HX1 HX2 HB0
    cases r3
    · go_wp2_with fail
      go_ret
      exact ⟨false, by simp; exact fun e => (by have := HR3.out.2 (by rw [e]); cases this), rfl, HB3.out⟩
    obtain ⟨_, _, _, _, _, _, g6, g7, _⟩ := HX13.out
    obtain ⟨_, _, _, _, _, _, d6, d7, _⟩ := HX23.out
    have HC4 := Lib.hid (eqSpT_any (C := C) (C' := C') (t := t.res) (u := u.res) (v := .agg #[.int .i64 t.res.kind, .slice rp t.res.args.length rc]) (x := .agg #[.int .i64 u.res.kind, .slice rp' u.res.args.length rc']) ⟨_, rfl, HT.out.res.stays (.of_below HB3.out)⟩ ⟨_, rfl, HU.out.res.stays (.of_below HB3.out)⟩)
    go_wp2_with fail
    refine HC4.out.mono ?_
    rintro e w4 ⟨r4, hr4, rfl, hb4⟩
    have HR4 := Lib.hid hr4
    have HB4 := Lib.hid (HB3.out.trans (hb4.mono HB3.out.size))
    have HX14 := Lib.hid (HX13.out.keep hb4)
    have HX24 := Lib.hid (HX23.out.keep hb4)
    clear g6 g7 d6 d7 hr4 hb4 HC4 HX13 HX23
    cases r4
    · go_wp2_with fail
      go_ret
      exact ⟨false, by simp; exact fun e => (by have := HR4.out.2 (by rw [e]); cases this), rfl, HB4.out⟩
    have g8 := HX14.out.args
    have d8 := HX24.out.args
    by_cases hl : t.args.length = u.args.length
    rotate_left
    · have HN5 := Lib.hid hl
      go_wp2_with fail
      go_ret
      exact ⟨false, by simp; exact fun e => HN5.out (by rw [e]), rfl, HB4.out⟩
    rw [← hl] at d8
    have HL := Lib.hid hl
    clear hl hlm'
    go_wp2_with fail
    clear g8 d8
    go_loopw [5] (fun i wr => ∃ (k : Nat), k ≤ t.args.length ∧ i = .int .i64 k ∧ t.args.take k = u.args.take k ∧ Below w4.heap.size w4 wr) (fun i _ => t.args.length - (intOf i).toNat)
    case atStart => exact ⟨0, Nat.zero_le _, rfl, by simp, Below.refl _ _⟩
    case round =>
      obtain ⟨k, hk, rfl, htk, hbr⟩ := hrel
      have HTK := Lib.hid htk
      have HBR := Lib.hid hbr
      have HB := Lib.hid (HB4.out.trans (hbr.mono HB4.out.size))
      have g8 := (HX14.out.keep hbr).args
      have d8 := (HX24.out.keep hbr).args
      rw [← HL.out] at d8
      clear htk hbr
      by_cases hlk : k < t.args.length
      · have hlk2 : k < u.args.length := by rw [← HL.out]; exact hlk
        obtain ⟨b, o, tp1, tc1, rp1, rc1, p1, c1, rfl, _, _, h9, hP⟩ := tm_part HT.out.args k hlk
        obtain ⟨b2, o2, tp2, tc2, rp2, rc2, p2, c2, rfl, _, _, h92, hP2⟩ := tm_part HU.out.args k hlk2
        obtain ⟨g0, g1, g2, g3, g4, g5, g6, g7, e8⟩ := h9 wr (.of_below HB.out)
        obtain ⟨d0, d1, d2, d3, d4, d5, d6, d7, f8⟩ := h92 wr (.of_below HB.out)
        have hmk : t.args[k].nodes ≤ m := by
          have h1 := nodesM_at t.args k hlk
          have h2 := t.nodes_eq
          have h3 := HM.out
          omega
        have HC := Lib.hid (eqSpM_any m wr.drew hmk (hP.stays (.of_below HB.out.drew)) (hP2.stays (.of_below HB.out.drew)))
        have i0 : (0 : Int) ≤ (k : Int) := Int.natCast_nonneg _
        have i1 : (k : Int) < (t.args.length : Int) := by omega
        clear h9 hP h92 hP2 hmk
        go_wp2_with fail
        go_region_held3 (fun w' => w'.cell? ⟨w.heap.size, 8, none⟩ = some (.slice (some ⟨b, o, none⟩) t.args.length c) ∧ w'.cell? ⟨w.heap.size + 1, 8, none⟩ = some (.slice (some ⟨b2, o2, none⟩) t.args.length c') ∧ w'.cell? ⟨b, o + k * 9, none⟩ = some (.int .i64 t.args[k].kind) ∧ w'.cell? ⟨b, o + k * 9 + 1, none⟩ = some (.string t.args[k].name) ∧ w'.cell? ⟨b, o + k * 9 + 2, none⟩ = some (.string t.args[k].other) ∧ w'.cell? ⟨b, o + k * 9 + 3, none⟩ = some (.int .i64 t.args[k].n) ∧ w'.cell? ⟨b, o + k * 9 + 4, none⟩ = some (.int .i64 t.args[k].ty.kind) ∧ w'.cell? ⟨b, o + k * 9 + 5, none⟩ = some (.slice tp1 t.args[k].ty.args.length tc1) ∧ w'.cell? ⟨b, o + k * 9 + 6, none⟩ = some (.int .i64 t.args[k].res.kind) ∧ w'.cell? ⟨b, o + k * 9 + 7, none⟩ = some (.slice rp1 t.args[k].res.args.length rc1) ∧ w'.cell? ⟨b, o + k * 9 + 8, none⟩ = some (.slice p1 t.args[k].args.length c1) ∧ w'.cell? ⟨b2, o2 + k * 9, none⟩ = some (.int .i64 u.args[k].kind) ∧ w'.cell? ⟨b2, o2 + k * 9 + 1, none⟩ = some (.string u.args[k].name) ∧ w'.cell? ⟨b2, o2 + k * 9 + 2, none⟩ = some (.string u.args[k].other) ∧ w'.cell? ⟨b2, o2 + k * 9 + 3, none⟩ = some (.int .i64 u.args[k].n) ∧ w'.cell? ⟨b2, o2 + k * 9 + 4, none⟩ = some (.int .i64 u.args[k].ty.kind) ∧ w'.cell? ⟨b2, o2 + k * 9 + 5, none⟩ = some (.slice tp2 u.args[k].ty.args.length tc2) ∧ w'.cell? ⟨b2, o2 + k * 9 + 6, none⟩ = some (.int .i64 u.args[k].res.kind) ∧ w'.cell? ⟨b2, o2 + k * 9 + 7, none⟩ = some (.slice rp2 u.args[k].res.args.length rc2) ∧ w'.cell? ⟨b2, o2 + k * 9 + 8, none⟩ = some (.slice p2 u.args[k].args.length c2) ∧ Below w.heap.size w w')
          (first
            | (go_keep; done)
            | exact ⟨g8, d8, g0, g1, g2, g3, g4, g5, g6, g7, e8, d0, d1, d2, d3, d4, d5, d6, d7, f8, HB.out.drew⟩
            | exact keep20 hb1 (by assumption))
          (first
            | (go_at_call 53; refine HC.out.mono ?_; rintro e w1 ⟨r, hr, rfl, hb1⟩))
        have HR := Lib.hid hr
        have HB1 := Lib.hid (HBR.out.trans (((Below.refl _ _).drew.trans hb1).mono HBR.out.size))
        rename_i hH
        clear hH hb1 hr g0 g1 g2 g3 g4 g5 g6 g7 e8 d0 d1 d2 d3 d4 d5 d6 d7 f8
        cases r with
        | true =>
          go_wp2_with fail
          go_roundw
          case rel => exact ⟨k + 1, by omega, by go_num, tm_take_eq HTK.out hlk hlk2 (HR.out.1 rfl), HB1.out⟩
          case measure => simp [intOf]; omega
        | false =>
          go_wp2_with fail
          go_ret
          exact ⟨false, by simpa using fun e => tm_ne_at hlk hlk2 (fun e => by simpa using HR.out.2 e) (by rw [e]), rfl, HB4.out.trans (HB1.out.mono HB4.out.size)⟩
      · obtain rfl : k = t.args.length := by omega
        have htk : t.args = u.args := by
          have := HTK.out
          rw [List.take_length, HL.out, List.take_length] at this
          exact this
        have HE := Lib.hid htk
        clear htk
        go_wp2_with fail
        go_ret
        exact ⟨true, by simp only [true_iff]; exact Tm.ext' HK.out HN.out HO.out HI.out (by simpa using HR3.out) (by simpa using HR4.out) HE.out, rfl, HB.out⟩
/-- THE MODEL's EqualTerm, AT ANY TWO TERMS. -/
theorem eqSpM_at {C C' : Nat → Prop} {t u : Tm} {v x : Value} {w : World} (h : TM w C t v) (h2 : TM w C' u x) :
    Calls Try.prog 53 #[v, x] w (BoolRet (fun b => b = true ↔ t = u) w) := by
  obtain ⟨tp, tc, rp, rc, p, c, rfl, hT⟩ := h
  obtain ⟨tp2, tc2, rp2, rc2, p2, c2, rfl, hU⟩ := h2
  exact eqSpM_any _ w (Nat.le_refl _) hT hU
#print axioms eqSpM_at
end Go.Proofs.Ytnciibngcaajgaa

