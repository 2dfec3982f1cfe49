/-
  Several texts of the proof in one (each says below what it holds): RsI IsResultLaw IsOpenLaw.
-/
import Derived.Test.YtfeijijeohfpgaaDoorLq8
import Derived.Test.YtfeijijeohfpgaaDoorLq7
import Derived.Test.YtfeijijeohfpgaaDoorLq9
import Derived.Test.YtfeijijeohfpgaaDoorLq2
set_option linter.unusedVariables false
set_option linter.unusedSimpArgs false
namespace Go.Proofs.YtfeijijeohfpgaaDoor
open Go Go.RowKit

variable {C : Nat → Prop} {t : Tm} {v : Value} {w : World}
set_option maxRecDepth 100000 in
set_option maxHeartbeats 1000000 in
theorem rslI_any (hka : KA w) (h : TM w C t v) (hn : t.wt ≤ 2097152) : Calls Tryd.prog 20 #[v] w (Tells t.Rsl w) := by
  have HN := Lib.hid hn
  have HKA := Lib.hid (fun (w' : World) (hb : Below w.heap.size w w') => hka.below hb)
  obtain ⟨tp, tc, rp, rc, p, c, rfl, hT⟩ := h
  have HT := Lib.hid hT
  have HX0 := Lib.hid (Bx9.new w t tp tc rp rc p c 35)
  have HB0 := Lib.hid (al_below w (.cells (tmC t tp tc rp rc p c) 35))
  clear hT hn hka
  by_cases hs : stuckK t.kind
  · have HS := Lib.hid hs
    obtain ⟨g0, g1, g2, g3, g4, g5, g6, g7, g8⟩ := HX0.out
    have HR := Lib.hid (show t.Rsl ↔ t.IsT from ⟨fun h => h.1, fun h => ⟨h, Or.inl HS.out⟩⟩)
    have HC := Lib.hid (isTermI_any (v := tmV t tp tc rp rc p c) (HKA.out _ HB0.out) ⟨_, _, _, _, _, _, rfl, HT.out.stays (.of_below HB0.out)⟩ HN.out)
    go_enter Tryd.func20, Tryd.ntmps20
    rcases hs with hk | hk | hk | hk
    · have t1 : (t.kind == 2) = true := by rw [hk]; rfl
      have t2 : (t.kind == 3) = false := by rw [hk]; rfl
      have t3 : (t.kind == 6) = false := by rw [hk]; rfl
      have t4 : (t.kind == 9) = false := by rw [hk]; rfl
      have t5 : (t.kind == 10) = false := by rw [hk]; rfl
      clear hk
      go_wp2_with fail
      refine HC.out.mono ?_
      rintro e w2 ⟨r2, hr2, rfl, hb2⟩
      have HR2 := Lib.hid hr2
      have HB2 := Lib.hid (HB0.out.trans (hb2.mono HB0.out.size))
      clear hr2 hb2
      go_wp2_with fail
      go_ret
      exact ⟨r2, by rw [HR.out]; exact HR2.out, rfl, HB2.out⟩
    · have t1 : (t.kind == 2) = false := by rw [hk]; rfl
      have t2 : (t.kind == 3) = true := by rw [hk]; rfl
      have t3 : (t.kind == 6) = false := by rw [hk]; rfl
      have t4 : (t.kind == 9) = false := by rw [hk]; rfl
      have t5 : (t.kind == 10) = false := by rw [hk]; rfl
      clear hk
      go_wp2_with fail
      refine HC.out.mono ?_
      rintro e w2 ⟨r2, hr2, rfl, hb2⟩
      have HR2 := Lib.hid hr2
      have HB2 := Lib.hid (HB0.out.trans (hb2.mono HB0.out.size))
      clear hr2 hb2
      go_wp2_with fail
      go_ret
      exact ⟨r2, by rw [HR.out]; exact HR2.out, rfl, HB2.out⟩
    · have t1 : (t.kind == 2) = false := by rw [hk]; rfl
      have t2 : (t.kind == 3) = false := by rw [hk]; rfl
      have t3 : (t.kind == 6) = true := by rw [hk]; rfl
      have t4 : (t.kind == 9) = false := by rw [hk]; rfl
      have t5 : (t.kind == 10) = false := by rw [hk]; rfl
      clear hk
      go_wp2_with fail
      refine HC.out.mono ?_
      rintro e w2 ⟨r2, hr2, rfl, hb2⟩
      have HR2 := Lib.hid hr2
      have HB2 := Lib.hid (HB0.out.trans (hb2.mono HB0.out.size))
      clear hr2 hb2
      go_wp2_with fail
      go_ret
      exact ⟨r2, by rw [HR.out]; exact HR2.out, rfl, HB2.out⟩
    · have t1 : (t.kind == 2) = false := by rw [hk]; rfl
      have t2 : (t.kind == 3) = false := by rw [hk]; rfl
      have t3 : (t.kind == 6) = false := by rw [hk]; rfl
      have t4 : (t.kind == 9) = true := by rw [hk]; rfl
      have t5 : (t.kind == 10) = false := by rw [hk]; rfl
      clear hk
      go_wp2_with fail
      refine HC.out.mono ?_
      rintro e w2 ⟨r2, hr2, rfl, hb2⟩
      have HR2 := Lib.hid hr2
      have HB2 := Lib.hid (HB0.out.trans (hb2.mono HB0.out.size))
      clear hr2 hb2
      go_wp2_with fail
      go_ret
      exact ⟨r2, by rw [HR.out]; exact HR2.out, rfl, HB2.out⟩
  by_cases hk : t.kind = 10
  · have HC := Lib.hid (formI_any _ (HKA.out _ HB0.out) (HT.out.stays (.of_below HB0.out)) HN.out)
    have HK := Lib.hid hk
    obtain ⟨g0, g1, g2, g3, g4, g5, g6, g7, g8⟩ := HX0.out
    have t1 : (t.kind == 2) = false := by rw [hk]; rfl
    have t2 : (t.kind == 3) = false := by rw [hk]; rfl
    have t3 : (t.kind == 6) = false := by rw [hk]; rfl
    have t4 : (t.kind == 9) = false := by rw [hk]; rfl
    have t5 : (t.kind == 10) = true := by rw [hk]; rfl
    clear hk hs
    go_enter Tryd.func20, Tryd.ntmps20
    go_wp2_with fail
    refine HC.out.mono ?_
    rintro e w1 ⟨r, hr, rfl, hb1⟩
    have HR := Lib.hid hr
    have HB1 := Lib.hid (HB0.out.trans (hb1.mono HB0.out.size))
    clear g0 g1 g2 g3 g4 g5 g6 g7 g8
    obtain ⟨g0, g1, g2, g3, g4, g5, g6, g7, g8⟩ := HX0.out.keep hb1
    clear hr hb1 HC
    cases r with
    | false =>
      go_wp2_with fail
      go_ret
      exact ⟨false, by simp only [Bool.false_eq_true, false_iff]; exact fun h => (by have := HR.out.2 ((isT_node t).1 h.1).1; cases this), rfl, HB1.out⟩
    | true =>
      obtain ⟨x, hx⟩ := List.length_eq_one_iff.1 (isT_one (HR.out.1 rfl) (Or.inl HK.out))
      obtain ⟨b, o, tp2, tc2, rp2, rc2, p2, c2, rfl, hC, hb, h9, hP⟩ := tm_part HT.out.args 0 (by rw [hx]; simp)
      have hx0 : t.args[0]'(by rw [hx]; simp) = x := by simp [hx]
      rw [hx0] at h9 hP
      simp only [Nat.zero_mul, Nat.add_zero] at h9
      have hl1 : t.args.length = 1 := by rw [hx]; rfl
      have HWX := Lib.hid (show x.wt ≤ 2097152 by have h1 := t.wt_eq; rw [hx] at h1; simp only [wtS] at h1; have := HN.out; omega)
      have HQ := Lib.hid (rsl_quote HK.out hx)
      obtain ⟨a0, a1, a2, a3, a4, a5, a6, a7, a8⟩ := h9 w1 (.of_below HB1.out)
      have HC := Lib.hid (genI_any (v := tmV x tp2 tc2 rp2 rc2 p2 c2) 1 (HKA.out _ HB1.out) ⟨_, _, _, _, _, _, rfl, hP.stays (.of_below HB1.out)⟩ HWX.out)
      have l8 := g8
      rw [hl1] at l8
      clear h9 hP hx hx0 g8 hC hb hl1
      go_wp2_with fail
      refine HC.out.mono ?_
      rintro e w2 ⟨r2, hr2, rfl, hb2⟩
      have HR2 := Lib.hid hr2
      have HB2 := Lib.hid (HB1.out.trans (hb2.mono HB1.out.size))
      clear hr2 hb2
      go_wp2_with fail
      go_ret
      exact ⟨r2, by rw [HQ.out]; exact ⟨fun h => ⟨HR.out.1 (by trivial), HR2.out.1 h⟩, fun h => HR2.out.2 h.2⟩, rfl, HB2.out⟩
  · have HQ := Lib.hid (rsl_not hs hk)
    obtain ⟨g0, g1, g2, g3, g4, g5, g6, g7, g8⟩ := HX0.out
    have t1 : (t.kind == 2) = false := by simp; exact fun h => hs (Or.inl h)
    have t2 : (t.kind == 3) = false := by simp; exact fun h => hs (Or.inr (Or.inl h))
    have t3 : (t.kind == 6) = false := by simp; exact fun h => hs (Or.inr (Or.inr (Or.inl h)))
    have t4 : (t.kind == 9) = false := by simp; exact fun h => hs (Or.inr (Or.inr (Or.inr h)))
    have t5 : (t.kind == 10) = false := by simp; exact hk
    clear hs hk
    go_enter Tryd.func20, Tryd.ntmps20
    go_wp2_with fail
    go_ret
    exact ⟨false, by simp only [Bool.false_eq_true, false_iff]; exact HQ.out, rfl, HB0.out⟩
set_option maxRecDepth 100000 in
theorem opnI_any (hka : KA w) (h : TM w C t v) (hn : t.wt ≤ 1048576) : Calls Tryd.prog 22 #[v] w (Tells t.Opn w) := by
  have HN := Lib.hid hn
  have HKA := Lib.hid (fun (w' : World) (hb : Below w.heap.size w w') => hka.below hb)
  obtain ⟨tp, tc, rp, rc, p, c, rfl, hT⟩ := h
  have HT := Lib.hid hT
  have HX0 := Lib.hid (Bx9.new w t tp tc rp rc p c 35)
  have HB0 := Lib.hid (al_below w (.cells (tmC t tp tc rp rc p c) 35))
  clear hT hn hka
  go_enter Tryd.func22, Tryd.ntmps22
  obtain ⟨g0, g1, g2, g3, g4, g5, g6, g7, g8⟩ := HX0.out
  go_wp2_with fail
  refine (levI_any 0 (HKA.out _ HB0.out) ⟨_, _, _, _, _, _, rfl, HT.out.stays (.of_below HB0.out)⟩ (Nat.le_trans HN.out (by decide))).mono ?_
  rintro e w1 ⟨r, hr, rfl, hb1⟩
  have HR := Lib.hid hr
  have HB1 := Lib.hid (HB0.out.trans (hb1.mono HB0.out.size))
  clear g0 g1 g2 g3 g4 g5 g6 g7 g8
  obtain ⟨g0, g1, g2, g3, g4, g5, g6, g7, g8⟩ := HX0.out.keep hb1
  clear hr hb1
  cases r with
  | false =>
    go_wp2_with fail
    go_ret
    exact ⟨false, by simp only [Bool.false_eq_true, false_iff]; exact fun h => (by have := HR.out.2 h.1; cases this), rfl, HB1.out⟩
  | true =>
    go_wp2_with fail
    refine (closedI_any (HKA.out _ HB1.out) ⟨_, _, _, _, _, _, rfl, HT.out.stays (.of_below HB1.out)⟩ (Nat.le_trans HN.out (by decide))).mono ?_
    rintro e w2 ⟨r2, hr2, rfl, hb2⟩
    have HR2 := Lib.hid hr2
    have HB2 := Lib.hid (HB1.out.trans (hb2.mono HB1.out.size))
    clear hr2 hb2
    go_wp2_with fail
    go_ret
    exact ⟨!r2, by cases r2 <;> simp only [Bool.not_true, Bool.not_false, Bool.false_eq_true, false_iff, true_iff] <;> first | exact ⟨HR.out.1 (by trivial), fun h => by have := HR2.out.2 h; cases this⟩ | exact fun h => h.2 (HR2.out.1 rfl), rfl, HB2.out⟩
end Go.Proofs.YtfeijijeohfpgaaDoor
namespace Go.Proofs.YtfeijijeohfpgaaDoor
open Go Go.RowKit

set_option maxRecDepth 100000 in
set_option maxHeartbeats 2000000 in
theorem lawIsResult {C : Nat → Prop} (t : Tm) (v : Value) (w : World) (hka : KA w) (h : TM w C t v) (hf : t.fit) :
    Calls Tryd.prog 6 #[v] w fun e w' => e = .returned (.bool true) ∧ Below w.heap.size w w' := by
  have HKA := Lib.hid (fun (w' : World) (hb : Below w.heap.size w w') => hka.below hb)
  clear hka
  have HT := Lib.hid (fun w' (hb : Below w.heap.size w w') => h.keep hb)
  obtain ⟨tp, tc, rp, rc, p, c, rfl, _⟩ := h
  have HB0 := Lib.hid (al_below w (.cells (tmC t tp tc rp rc p c) 27))
  have HX0 := Lib.hid (Bx9.new w t tp tc rp rc p c 27)
  go_enter Tryd.func6, Tryd.ntmps6
  go_wp2_with fail
  refine (szM_any (HT.out _ HB0.out) hf 1048576 (by omega) (by omega)).mono ?_
  rintro e w1 ⟨r, hr, rfl, hb1⟩
  have HX1 := Lib.hid (HX0.out.keep hb1)
  have HB1 := Lib.hid (HB0.out.trans (hb1.mono HB0.out.size))
  have HR := Lib.hid hr
  clear hr hb1
  by_cases h0 : r < 0
  · go_wp2_with fail
    go_ret
    exact ⟨rfl, HB1.out⟩
  have hn : t.wt ≤ 1048576 := by have := HR.out; unfold SzEnds at this; omega
  have hn2 : t.wt ≤ 2097152 := by omega
  obtain ⟨g0, g1, g2, g3, g4, g5, g6, g7, g8⟩ := HX1.out
  go_wp2_with fail
  refine (toM_any (HT.out _ HB1.out) hn).mono ?_
  rintro e w2 ⟨v1, rfl, ho1, hb2⟩
  have HO1 := Lib.hid ho1
  have HB2 := Lib.hid (HB1.out.trans (hb2.mono HB1.out.size))
  have HX2 := Lib.hid (HX1.out.keep hb2)
  clear ho1 hb2 g0 g1 g2 g3 g4 g5 g6 g7 g8
  go_wp2_with fail
  refine (rslS_at HO1.out.tm hn2).mono ?_
  rintro e w3 ⟨r1, hr1, rfl, hb3⟩
  have HB3 := Lib.hid (HB2.out.trans (hb3.mono HB2.out.size))
  have HX3 := Lib.hid (HX2.out.keep hb3)
  have HR1 := Lib.hid hr1
  clear hb3 hr1
  obtain ⟨g0, g1, g2, g3, g4, g5, g6, g7, g8⟩ := HX3.out
  go_wp2_with fail
  refine (toM_any (HT.out _ HB3.out) hn).mono ?_
  rintro e w4 ⟨v2, rfl, ho2, hb4⟩
  have HY := Lib.hid (fun w' (hb : Below w4.heap.size w4 w') => ho2.tm.keep hb)
  obtain ⟨tp2, tc2, rp2, rc2, p2, c2, rfl, _⟩ := ho2
  have HB4 := Lib.hid (HB3.out.trans (hb4.mono HB3.out.size))
  have HX4 := Lib.hid (HX3.out.keep hb4)
  have HBX := Lib.hid (al_below w4 (.cells (tmC t tp2 tc2 rp2 rc2 p2 c2) 35))
  have HZ4 := Lib.hid (Bx9.new w4 t tp2 tc2 rp2 rc2 p2 c2 35)
  clear hb4 g0 g1 g2 g3 g4 g5 g6 g7 g8
  go_wp2_with fail
  refine (rslI_any (HKA.out _ (HB4.out.trans (HBX.out.mono HB4.out.size))) (HY.out _ HBX.out) hn2).mono ?_
  rintro e w5 ⟨r2, hr2, rfl, hb5⟩
  have HZ5 := Lib.hid (HZ4.out.keep hb5)
  have hbb := below_box hb5
  have HB5 := Lib.hid (HB4.out.trans (hbb.mono HB4.out.size))
  have HX5 := Lib.hid (HX4.out.keep hbb)
  have HXB := Lib.hid hbb
  obtain rfl : r2 = r1 := by first | exact hr2.trans HR1.out.symm | exact Bool.eq_iff_iff.2 (hr2.trans HR1.out.symm) | exact hr2.one HR1.out
  clear hb5 hbb hr2 HR1
  obtain ⟨g0, g1, g2, g3, g4, g5, g6, g7, g8⟩ := HX5.out
  obtain ⟨d0, d1, d2, d3, d4, d5, d6, d7, d8⟩ := HZ5.out
  go_wp2_with fail
  go_region_held3 (fun w' => w'.cell? ⟨w.heap.size, 0, none⟩ = some (.int .i64 t.kind) ∧ w'.cell? ⟨w.heap.size, 1, none⟩ = some (.string t.name) ∧ w'.cell? ⟨w.heap.size, 2, none⟩ = some (.string t.other) ∧ w'.cell? ⟨w.heap.size, 3, none⟩ = some (.int .i64 t.n) ∧ w'.cell? ⟨w.heap.size, 4, none⟩ = some (.int .i64 t.ty.kind) ∧ w'.cell? ⟨w.heap.size, 5, none⟩ = some (.slice tp t.ty.args.length tc) ∧ w'.cell? ⟨w.heap.size, 6, none⟩ = some (.int .i64 t.res.kind) ∧ w'.cell? ⟨w.heap.size, 7, none⟩ = some (.slice rp t.res.args.length rc) ∧ w'.cell? ⟨w.heap.size, 8, none⟩ = some (.slice p t.args.length c) ∧ w'.cell? ⟨w4.heap.size, 0, none⟩ = some (.int .i64 t.kind) ∧ w'.cell? ⟨w4.heap.size, 1, none⟩ = some (.string t.name) ∧ w'.cell? ⟨w4.heap.size, 2, none⟩ = some (.string t.other) ∧ w'.cell? ⟨w4.heap.size, 3, none⟩ = some (.int .i64 t.n) ∧ w'.cell? ⟨w4.heap.size, 4, none⟩ = some (.int .i64 t.ty.kind) ∧ w'.cell? ⟨w4.heap.size, 5, none⟩ = some (.slice tp2 t.ty.args.length tc2) ∧ w'.cell? ⟨w4.heap.size, 6, none⟩ = some (.int .i64 t.res.kind) ∧ w'.cell? ⟨w4.heap.size, 7, none⟩ = some (.slice rp2 t.res.args.length rc2) ∧ w'.cell? ⟨w4.heap.size, 8, none⟩ = some (.slice p2 t.args.length c2) ∧ Below w5.heap.size w5 w')
    (first
      | (go_keep; done)
      | exact ⟨g0, g1, g2, g3, g4, g5, g6, g7, g8, d0, d1, d2, d3, d4, d5, d6, d7, d8, (Below.refl _ _).drew⟩
      | exact keep18 hb7 (by assumption)
      | exact keep18 hb6 (by assumption))
    (first
      | (go_at_call 12; refine (toM_any (HT.out _ (HB5.out.trans (((Below.refl _ _).drew).mono HB5.out.size))) hn).mono ?_; rintro e w6 ⟨v3, rfl, ho3, hb6⟩)
      | (go_at_call 14; refine (eqM_any (HY.out _ (HXB.out.trans (((Below.refl _ _).drew.trans hb6).mono HXB.out.size))) ho3.tm).mono ?_; rintro e w7 ⟨b7, he7, rfl, hb7⟩))
  rename_i hH
  have HBL := Lib.hid (HB5.out.trans (hH.2.2.2.2.2.2.2.2.2.2.2.2.2.2.2.2.2.2.mono HB5.out.size))
  obtain rfl : b7 = true := by simpa using he7
  clear hH
  go_wp2_with fail
  go_ret
  exact ⟨rfl, HBL.out⟩
end Go.Proofs.YtfeijijeohfpgaaDoor
namespace Go.Proofs.YtfeijijeohfpgaaDoor
open Go Go.RowKit

set_option maxRecDepth 100000 in
set_option maxHeartbeats 2000000 in
theorem lawIsOpen {C : Nat → Prop} (t : Tm) (v : Value) (w : World) (hka : KA w) (h : TM w C t v) (hf : t.fit) :
    Calls Tryd.prog 7 #[v] w fun e w' => e = .returned (.bool true) ∧ Below w.heap.size w w' := by
  have HKA := Lib.hid (fun (w' : World) (hb : Below w.heap.size w w') => hka.below hb)
  clear hka
  have HT := Lib.hid (fun w' (hb : Below w.heap.size w w') => h.keep hb)
  obtain ⟨tp, tc, rp, rc, p, c, rfl, _⟩ := h
  have HB0 := Lib.hid (al_below w (.cells (tmC t tp tc rp rc p c) 27))
  have HX0 := Lib.hid (Bx9.new w t tp tc rp rc p c 27)
  go_enter Tryd.func7, Tryd.ntmps7
  go_wp2_with fail
  refine (szM_any (HT.out _ HB0.out) hf 1048576 (by omega) (by omega)).mono ?_
  rintro e w1 ⟨r, hr, rfl, hb1⟩
  have HX1 := Lib.hid (HX0.out.keep hb1)
  have HB1 := Lib.hid (HB0.out.trans (hb1.mono HB0.out.size))
  have HR := Lib.hid hr
  clear hr hb1
  by_cases h0 : r < 0
  · go_wp2_with fail
    go_ret
    exact ⟨rfl, HB1.out⟩
  have hn : t.wt ≤ 1048576 := by have := HR.out; unfold SzEnds at this; omega
  have hn2 : t.wt ≤ 2097152 := by omega
  obtain ⟨g0, g1, g2, g3, g4, g5, g6, g7, g8⟩ := HX1.out
  go_wp2_with fail
  refine (toM_any (HT.out _ HB1.out) hn).mono ?_
  rintro e w2 ⟨v1, rfl, ho1, hb2⟩
  have HO1 := Lib.hid ho1
  have HB2 := Lib.hid (HB1.out.trans (hb2.mono HB1.out.size))
  have HX2 := Lib.hid (HX1.out.keep hb2)
  clear ho1 hb2 g0 g1 g2 g3 g4 g5 g6 g7 g8
  go_wp2_with fail
  refine (opnS_at HO1.out.tm hn).mono ?_
  rintro e w3 ⟨r1, hr1, rfl, hb3⟩
  have HB3 := Lib.hid (HB2.out.trans (hb3.mono HB2.out.size))
  have HX3 := Lib.hid (HX2.out.keep hb3)
  have HR1 := Lib.hid hr1
  clear hb3 hr1
  obtain ⟨g0, g1, g2, g3, g4, g5, g6, g7, g8⟩ := HX3.out
  go_wp2_with fail
  refine (toM_any (HT.out _ HB3.out) hn).mono ?_
  rintro e w4 ⟨v2, rfl, ho2, hb4⟩
  have HY := Lib.hid (fun w' (hb : Below w4.heap.size w4 w') => ho2.tm.keep hb)
  obtain ⟨tp2, tc2, rp2, rc2, p2, c2, rfl, _⟩ := ho2
  have HB4 := Lib.hid (HB3.out.trans (hb4.mono HB3.out.size))
  have HX4 := Lib.hid (HX3.out.keep hb4)
  have HBX := Lib.hid (al_below w4 (.cells (tmC t tp2 tc2 rp2 rc2 p2 c2) 35))
  have HZ4 := Lib.hid (Bx9.new w4 t tp2 tc2 rp2 rc2 p2 c2 35)
  clear hb4 g0 g1 g2 g3 g4 g5 g6 g7 g8
  go_wp2_with fail
  refine (opnI_any (HKA.out _ (HB4.out.trans (HBX.out.mono HB4.out.size))) (HY.out _ HBX.out) hn).mono ?_
  rintro e w5 ⟨r2, hr2, rfl, hb5⟩
  have HZ5 := Lib.hid (HZ4.out.keep hb5)
  have hbb := below_box hb5
  have HB5 := Lib.hid (HB4.out.trans (hbb.mono HB4.out.size))
  have HX5 := Lib.hid (HX4.out.keep hbb)
  have HXB := Lib.hid hbb
  obtain rfl : r2 = r1 := by first | exact hr2.trans HR1.out.symm | exact Bool.eq_iff_iff.2 (hr2.trans HR1.out.symm) | exact hr2.one HR1.out
  clear hb5 hbb hr2 HR1
  obtain ⟨g0, g1, g2, g3, g4, g5, g6, g7, g8⟩ := HX5.out
  obtain ⟨d0, d1, d2, d3, d4, d5, d6, d7, d8⟩ := HZ5.out
  go_wp2_with fail
  go_region_held3 (fun w' => w'.cell? ⟨w.heap.size, 0, none⟩ = some (.int .i64 t.kind) ∧ w'.cell? ⟨w.heap.size, 1, none⟩ = some (.string t.name) ∧ w'.cell? ⟨w.heap.size, 2, none⟩ = some (.string t.other) ∧ w'.cell? ⟨w.heap.size, 3, none⟩ = some (.int .i64 t.n) ∧ w'.cell? ⟨w.heap.size, 4, none⟩ = some (.int .i64 t.ty.kind) ∧ w'.cell? ⟨w.heap.size, 5, none⟩ = some (.slice tp t.ty.args.length tc) ∧ w'.cell? ⟨w.heap.size, 6, none⟩ = some (.int .i64 t.res.kind) ∧ w'.cell? ⟨w.heap.size, 7, none⟩ = some (.slice rp t.res.args.length rc) ∧ w'.cell? ⟨w.heap.size, 8, none⟩ = some (.slice p t.args.length c) ∧ w'.cell? ⟨w4.heap.size, 0, none⟩ = some (.int .i64 t.kind) ∧ w'.cell? ⟨w4.heap.size, 1, none⟩ = some (.string t.name) ∧ w'.cell? ⟨w4.heap.size, 2, none⟩ = some (.string t.other) ∧ w'.cell? ⟨w4.heap.size, 3, none⟩ = some (.int .i64 t.n) ∧ w'.cell? ⟨w4.heap.size, 4, none⟩ = some (.int .i64 t.ty.kind) ∧ w'.cell? ⟨w4.heap.size, 5, none⟩ = some (.slice tp2 t.ty.args.length tc2) ∧ w'.cell? ⟨w4.heap.size, 6, none⟩ = some (.int .i64 t.res.kind) ∧ w'.cell? ⟨w4.heap.size, 7, none⟩ = some (.slice rp2 t.res.args.length rc2) ∧ w'.cell? ⟨w4.heap.size, 8, none⟩ = some (.slice p2 t.args.length c2) ∧ Below w5.heap.size w5 w')
    (first
      | (go_keep; done)
      | exact ⟨g0, g1, g2, g3, g4, g5, g6, g7, g8, d0, d1, d2, d3, d4, d5, d6, d7, d8, (Below.refl _ _).drew⟩
      | exact keep18 hb7 (by assumption)
      | exact keep18 hb6 (by assumption))
    (first
      | (go_at_call 12; refine (toM_any (HT.out _ (HB5.out.trans (((Below.refl _ _).drew).mono HB5.out.size))) hn).mono ?_; rintro e w6 ⟨v3, rfl, ho3, hb6⟩)
      | (go_at_call 14; refine (eqM_any (HY.out _ (HXB.out.trans (((Below.refl _ _).drew.trans hb6).mono HXB.out.size))) ho3.tm).mono ?_; rintro e w7 ⟨b7, he7, rfl, hb7⟩))
  rename_i hH
  have HBL := Lib.hid (HB5.out.trans (hH.2.2.2.2.2.2.2.2.2.2.2.2.2.2.2.2.2.2.mono HB5.out.size))
  obtain rfl : b7 = true := by simpa using he7
  clear hH
  go_wp2_with fail
  go_ret
  exact ⟨rfl, HBL.out⟩
end Go.Proofs.YtfeijijeohfpgaaDoor
