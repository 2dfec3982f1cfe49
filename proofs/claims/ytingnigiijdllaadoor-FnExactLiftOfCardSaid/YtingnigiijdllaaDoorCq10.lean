/-
  Several texts of the proof in one (each says below what it holds): CodePartLaw Frame FrameV LiftOfLaw.
-/
import Derived.Test.YtingnigiijdllaaDoorCq2
import Derived.Test.YtingnigiijdllaaDoorCq3
import Derived.Test.YtingnigiijdllaaDoorCq7
import Derived.Test.YtingnigiijdllaaDoorCq9
import Derived.ProofKit
import Derived.OpenShut
import Derived.Carry
import Derived.Below
import Derived.OpenVars
import Derived.ChangeVars
set_option linter.unusedVariables false
set_option linter.unusedSimpArgs false
namespace Go.Proofs.YtingnigiijdllaaDoor
open Go Go.RowKit

set_option maxRecDepth 100000 in
set_option maxHeartbeats 8000000 in
theorem lawCodePart {C : Nat → Prop} (t : Tm) (v : Value) (w : World) (hka : KA w) (h : TM w C t v) (hf : t.fit) :
    Calls Tryd.prog 5 #[v] w fun e w' => e = .returned (.bool true) ∧ Below w.heap.size w w' := by
  have HKA := Lib.hid (fun (w' : World) (hb : Below w.heap.size w w') => hka.below hb)
  clear hka
  have HT := Lib.hid (fun w' (hb : Below w.heap.size w w') => h.keep hb)
  obtain ⟨tp, tc, rp, rc, p, c, rfl, _⟩ := h
  have HB0 := Lib.hid (al_below w (.cells (tmC t tp tc rp rc p c) 27))
  have HX0 := Lib.hid (Bx9.new w t tp tc rp rc p c 27)
  go_enter Tryd.func5, Tryd.ntmps5
  go_wp2_with fail
  refine (szM_any (HT.out _ HB0.out) hf 1048576 (by omega) (by omega)).mono ?_
  rintro e w1 ⟨r, hr, rfl, hb1⟩
  have HX1 := Lib.hid (HX0.out.keep hb1)
  have HB1 := Lib.hid (HB0.out.trans (hb1.mono HB0.out.size))
  have HR := Lib.hid hr
  clear hr hb1
  by_cases h0 : r < 0
  · go_wp2_with fail
    go_ret
    exact ⟨rfl, HB1.out⟩
  have hn : t.wt ≤ 1048576 := by have := HR.out; unfold SzEnds at this; omega
  have hn2 : t.wt ≤ 2097152 := by omega
  obtain ⟨g0, g1, g2, g3, g4, g5, g6, g7, g8⟩ := HX1.out
  go_wp2_with fail
  refine (toM_any (HT.out _ HB1.out) hn).mono ?_
  rintro e w2 ⟨v1, rfl, ho1, hb2⟩
  have HO1 := Lib.hid ho1
  have HB2 := Lib.hid (HB1.out.trans (hb2.mono HB1.out.size))
  have HX2 := Lib.hid (HX1.out.keep hb2)
  clear ho1 hb2 g0 g1 g2 g3 g4 g5 g6 g7 g8
  go_wp2_with fail
  refine (cpS_at HO1.out.tm hn).mono ?_
  rintro e w3 ⟨T, ok, v2, rfl, hP, ⟨tp2, tc2, rp2, rc2, p2, c2, rfl, hw⟩, hb3⟩
  have hTw : T.wt ≤ 1048577 := by have := cp_wt hP; omega
  have hcn := T.cntT_wt
  have hct := t.cntT_wt
  have HP := Lib.hid hP
  have HB3 := Lib.hid (HB2.out.trans (hb3.mono HB2.out.size))
  have HW := Lib.hid (hw.mono (C' := (· < w3.heap.size)) (fun b _ hl => hl))
  have hba := al_below w3 (.cells (tmC T tp2 tc2 rp2 rc2 p2 c2) 35)
  have HBA := Lib.hid hba
  have hx := ((HX2.out.keep hb3).keep hba)
  have HX3 := Lib.hid hx
  have HW4 := Lib.hid (Bx9.new w3 T tp2 tc2 rp2 rc2 p2 c2 35)
  obtain ⟨g0, g1, g2, g3, g4, g5, g6, g7, g8⟩ := hx
  have HB3a := Lib.hid (HB3.out.trans (hba.mono HB3.out.size))
  clear hw hb3 hba hP
  go_wp2_with fail
  refine (toM_any (HT.out _ HB3a.out) hn).mono ?_
  rintro e w4 ⟨v3, rfl, ⟨tp3, tc3, rp3, rc3, p3, c3, rfl, ho3⟩, hb4⟩
  have HO3 := Lib.hid ho3
  have HB4w := Lib.hid hb4
  have hba := al_below w4 (.cells (tmC t tp3 tc3 rp3 rc3 p3 c3) 35)
  have HBA4 := Lib.hid hba
  have hx := Bx9.new w4 t tp3 tc3 rp3 rc3 p3 c3 35
  have HX5 := Lib.hid hx
  have HTA := Lib.hid (⟨_, _, _, _, _, _, rfl, (ho3.keep hba).tm⟩ : TM (w4.alloc (.cells (tmC t tp3 tc3 rp3 rc3 p3 c3) 35)) _ t (tmV t tp3 tc3 rp3 rc3 p3 c3))
  have HB4 := Lib.hid (HB3a.out.trans (hb4.mono HB3a.out.size))
  have HB4a := Lib.hid (HB4.out.trans (hba.mono HB4.out.size))
  clear g0 g1 g2 g3 g4 g5 g6 g7 g8 ho3 hb4 hba
  obtain ⟨g0, g1, g2, g3, g4, g5, g6, g7, g8⟩ := hx
  go_wp2_with fail
  refine (cpI_any (HKA.out _ HB4a.out) HTA.out hn).mono ?_
  rintro e w5 ⟨T4, ok4, v4, rfl, hP4, ⟨tp4, tc4, rp4, rc4, p4, c4, rfl, ho4⟩, hb5⟩
  obtain ⟨rfl, rfl⟩ := cp_one HP.out hP4
  have hba := al_below w5 (.cells (tmC T tp4 tc4 rp4 rc4 p4 c4) 35)
  obtain ⟨w5b, hw5⟩ : ∃ w5b, w5.alloc (.cells (tmC T tp4 tc4 rp4 rc4 p4 c4) 35) = w5b := ⟨_, rfl⟩
  have hs3 : (w3.alloc (.cells (tmC T tp2 tc2 rp2 rc2 p2 c2) 35)).heap.size = w3.heap.size + 1 := by simp
  have hs4 : (w4.alloc (.cells (tmC t tp3 tc3 rp3 rc3 p3 c3) 35)).heap.size = w4.heap.size + 1 := by simp
  have hs5 : w5b.heap.size = w5.heap.size + 1 := by rw [← hw5]; simp
  have l34 := HB4w.out.size
  have l45 := hb5.size
  have lw3 := HB3.out.size
  rw [hs3] at l34
  rw [hs4] at l45
  have XX6 : Bx9 w5b w5.heap.size T tp4 tc4 rp4 rc4 p4 c4 := hw5 ▸ Bx9.new w5 T tp4 tc4 rp4 rc4 p4 c4 35
  rw [hw5] at hba
  have hb5b := (hb5.trans (hba.mono hb5.size))
  have XX5 := (HX5.out.keep hb5b)
  have hb3b := (HB4w.out.trans ((HBA4.out.trans (hb5b.mono HBA4.out.size)).mono HB4w.out.size))
  have XX4 := HW4.out.keep hb3b
  have XX1 := HX3.out.keep hb3b
  have WW : TM w5b (· < w3.heap.size) T (tmV T tp2 tc2 rp2 rc2 p2 c2) := ⟨_, _, _, _, _, _, rfl, ((HW.out.stays (.of_below HBA.out)).stays (.of_below hb3b))⟩
  have AA : OMv w5b t (tmV t tp3 tc3 rp3 rc3 p3 c3) (fun z => w3.heap.size + 1 ≤ z ∧ z < w4.heap.size) := ⟨_, _, _, _, _, _, rfl, ((HO3.out.keep HBA4.out).keep hb5b).mono (fun z hz => by rw [hs3] at hz; exact hz)⟩
  have GG : OMv w5b T (tmV T tp4 tc4 rp4 rc4 p4 c4) (fun z => w4.heap.size + 1 ≤ z ∧ z < w5.heap.size) := ⟨_, _, _, _, _, _, rfl, (ho4.keep hba).mono (fun z hz => by rw [hs4] at hz; exact hz)⟩
  have BB : Below w.heap.size w w5b := HB4a.out.trans (hb5b.mono HB4a.out.size)
  have H1 := Lib.hid XX1
  have H4 := Lib.hid XX4
  have H5 := Lib.hid XX5
  have H6 := Lib.hid XX6
  have HWW := Lib.hid WW
  have HAA := Lib.hid AA
  have HGG := Lib.hid GG
  have HBB := Lib.hid BB
  have HL := Lib.hid (And.intro l34 (And.intro l45 (And.intro lw3 hs5)))
  have HW5 := Lib.hid hw5
  obtain ⟨f0, f1, f2, f3, f4, f5, f6, f7, f8⟩ := XX4
  obtain ⟨d0, d1, d2, d3, d4, d5, d6, d7, d8⟩ := XX6
  rw [← hw5] at f0 f1 f2 f3 f4 f5 f6 f7 f8 d0 d1 d2 d3 d4 d5 d6 d7 d8
  have HEQ := Lib.hid (eqM_any GG.tm WW)
  rw [← hw5] at HEQ
  clear g0 g1 g2 g3 g4 g5 g6 g7 g8 ho4 hb5 hba hw5 hs3 hs4 hs5 l34 l45 lw3 XX1 XX5 WW AA GG BB hb5b hb3b hP4
  go_wp2_with fail
  refine HEQ.out.mono ?_
  rintro e w6 ⟨b6, he6, rfl, hb6⟩
  rw [HW5.out] at hb6
  obtain rfl : b6 = true := by simpa using he6
  have HS6 := Lib.hid hb6
  have HB6 := Lib.hid (HBB.out.trans (hb6.mono HBB.out.size))
  clear f0 f1 f2 f3 f4 f5 f6 f7 f8 d0 d1 d2 d3 d4 d5 d6 d7 d8
  obtain ⟨g0, g1, g2, g3, g4, g5, g6, g7, g8⟩ := H1.out.keep hb6
  obtain ⟨d0, d1, d2, d3, d4, d5, d6, d7, d8⟩ := H5.out.keep hb6
  have HAX := Lib.hid (fun (W : World) (hW : Below w6.heap.size w6 W) => HAA.out.tm.keep (HS6.out.trans (hW.mono HS6.out.size)))
  clear he6 hb6 HEQ
  go_wp2_with fail
  go_region_held3 (fun w' => w'.cell? ⟨w.heap.size, 0, none⟩ = some (.int .i64 t.kind) ∧ w'.cell? ⟨w.heap.size, 1, none⟩ = some (.string t.name) ∧ w'.cell? ⟨w.heap.size, 2, none⟩ = some (.string t.other) ∧ w'.cell? ⟨w.heap.size, 3, none⟩ = some (.int .i64 t.n) ∧ w'.cell? ⟨w.heap.size, 4, none⟩ = some (.int .i64 t.ty.kind) ∧ w'.cell? ⟨w.heap.size, 5, none⟩ = some (.slice tp t.ty.args.length tc) ∧ w'.cell? ⟨w.heap.size, 6, none⟩ = some (.int .i64 t.res.kind) ∧ w'.cell? ⟨w.heap.size, 7, none⟩ = some (.slice rp t.res.args.length rc) ∧ w'.cell? ⟨w.heap.size, 8, none⟩ = some (.slice p t.args.length c) ∧ w'.cell? ⟨w4.heap.size, 0, none⟩ = some (.int .i64 t.kind) ∧ w'.cell? ⟨w4.heap.size, 1, none⟩ = some (.string t.name) ∧ w'.cell? ⟨w4.heap.size, 2, none⟩ = some (.string t.other) ∧ w'.cell? ⟨w4.heap.size, 3, none⟩ = some (.int .i64 t.n) ∧ w'.cell? ⟨w4.heap.size, 4, none⟩ = some (.int .i64 t.ty.kind) ∧ w'.cell? ⟨w4.heap.size, 5, none⟩ = some (.slice tp3 t.ty.args.length tc3) ∧ w'.cell? ⟨w4.heap.size, 6, none⟩ = some (.int .i64 t.res.kind) ∧ w'.cell? ⟨w4.heap.size, 7, none⟩ = some (.slice rp3 t.res.args.length rc3) ∧ w'.cell? ⟨w4.heap.size, 8, none⟩ = some (.slice p3 t.args.length c3) ∧ Below w6.heap.size w6 w')
    (first
      | (go_keep; done)
      | exact ⟨g0, g1, g2, g3, g4, g5, g6, g7, g8, d0, d1, d2, d3, d4, d5, d6, d7, d8, (Below.refl _ _).drew⟩
      | exact keep18 hb8 (by assumption)
      | exact keep18 hb7 (by assumption))
    (first
      | (go_at_call 10; refine (toM_any (HT.out _ (HB6.out.trans (((Below.refl _ _).drew).mono HB6.out.size))) hn).mono ?_; rintro e w7 ⟨v7, rfl, ho7, hb7⟩)
      | (go_at_call 12; refine (eqM_any (HAX.out _ (((Below.refl _ _).drew.trans hb7))) ho7.tm).mono ?_; rintro e w8 ⟨b8, he8, rfl, hb8⟩))
  rename_i hH
  have hbl := hH.2.2.2.2.2.2.2.2.2.2.2.2.2.2.2.2.2.2
  obtain rfl : b8 = true := by simpa using he8
  have S8 := HS6.out.trans (hbl.mono HS6.out.size)
  have HS8 := Lib.hid S8
  have HB8 := Lib.hid (HBB.out.trans (S8.mono HBB.out.size))
  clear g0 g1 g2 g3 g4 g5 g6 g7 g8 d0 d1 d2 d3 d4 d5 d6 d7 d8
  obtain ⟨d0, d1, d2, d3, d4, d5, d6, d7, d8⟩ := H5.out.keep S8
  obtain ⟨m, hm⟩ : ∃ m : Nat, 1 + t.cntT = m := ⟨_, rfl⟩
  have hM := markTm_any (HAA.out.keep S8) 1 (Nat.le_refl _) (by omega)
  rw [hm] at hM
  have HM := Lib.hid (show Calls Tryd.prog 17 #[(tmV t tp3 tc3 rp3 rc3 p3 c3), .int .i64 1] w8 _ from hM)
  have hmm : ¬ ((m : Int) < 0) := by omega
  clear hH hbl he8 hb8 hb7 ho7 S8 hM hm
  go_wp2_with fail
  refine HM.out.mono ?_
  rintro e w9 ⟨rfl, _, hbt9⟩
  obtain ⟨l34, l45, lw3, hs5⟩ := HL.out
  have S9 : Stays (fun z => z < w3.heap.size + 1 ∨ (w4.heap.size ≤ z ∧ z < w5.heap.size + 1)) w5b w9 := (Stays.of_below HS8.out).trans (hbt9.stays (fun z h1 h2 => by omega))
  have B9 : Below w.heap.size w w9 := HB8.out.trans (hbt9.below _ HB8.out.size (fun z hz => by omega))
  have HS9 := Lib.hid S9
  have HB9 := Lib.hid B9
  clear d0 d1 d2 d3 d4 d5 d6 d7 d8
  obtain ⟨f0, f1, f2, f3, f4, f5, f6, f7, f8⟩ := H4.out.at (S9.2 _ (by show w3.heap.size < _ ∨ _; omega) (by omega))
  obtain ⟨d0, d1, d2, d3, d4, d5, d6, d7, d8⟩ := H6.out.at (S9.2 _ (by show _ ∨ (_ ∧ w5.heap.size < _); omega) (by omega))
  have HEQ := Lib.hid (eqM_any (HGG.out.stays (S9.mono (fun z hz => by omega))).tm (HWW.out.stays (S9.mono (fun z hz => by omega))))
  clear hbt9 S9 B9 l34 l45 lw3 hs5
  go_wp2_with fail
  refine HEQ.out.mono ?_
  rintro e w10 ⟨b10, he10, rfl, hb10⟩
  obtain rfl : b10 = true := by simpa using he10
  obtain ⟨l34, l45, lw3, hs5⟩ := HL.out
  have S10 := HS9.out.trans (.of_below hb10)
  have HS10 := Lib.hid S10
  have HB10 := Lib.hid (HB9.out.trans (hb10.mono HB9.out.size))
  clear f0 f1 f2 f3 f4 f5 f6 f7 f8 d0 d1 d2 d3 d4 d5 d6 d7 d8
  obtain ⟨d0, d1, d2, d3, d4, d5, d6, d7, d8⟩ := H6.out.at (S10.2 _ (by show _ ∨ (_ ∧ w5.heap.size < _); omega) (by omega))
  obtain ⟨n, hn2'⟩ : ∃ n : Nat, 1 + T.cntT = n := ⟨_, rfl⟩
  have HN := Lib.hid hn2'
  have hM := markTm_any (HGG.out.stays (S10.mono (fun z hz => by omega))) 1 (Nat.le_refl _) (by omega)
  rw [hn2'] at hM
  have HM2 := Lib.hid (show Calls Tryd.prog 17 #[(tmV T tp4 tc4 rp4 rc4 p4 c4), .int .i64 1] w10 _ from hM)
  have hnn : ¬ ((n : Int) < 0) := by omega
  clear he10 hb10 S10 hM hn2' l34 l45 lw3 hs5 HEQ
  go_wp2_with fail
  refine HM2.out.mono ?_
  rintro e w11 ⟨rfl, hO, hbt11⟩
  obtain ⟨l34, l45, lw3, hs5⟩ := HL.out
  have S11 : Stays (fun z => z < w3.heap.size + 1 ∨ z = w5.heap.size) w5b w11 := ((HS10.out.mono (fun z hz => by omega))).trans (hbt11.stays (fun z h1 h2 => by omega))
  have B11 : Below w.heap.size w w11 := HB10.out.trans (hbt11.below _ HB10.out.size (fun z hz => by omega))
  have HS11 := Lib.hid S11
  have HB11 := Lib.hid B11
  have HO11 := Lib.hid hO
  clear d0 d1 d2 d3 d4 d5 d6 d7 d8
  obtain ⟨d0, d1, d2, d3, d4, d5, d6, d7, d8⟩ := H6.out.at (S11.2 _ (Or.inr rfl) (by omega))
  have hH1 := heldTm_any hO.tm (Nat.le_refl _) (by omega)
  rw [HN.out] at hH1
  have HH1 := Lib.hid (show Calls Tryd.prog 18 #[(tmV T tp4 tc4 rp4 rc4 p4 c4), .int .i64 1] w11 _ from hH1)
  clear hbt11 S11 B11 hO hH1 l34 l45 lw3 hs5
  go_wp2_with fail
  refine HH1.out.mono ?_
  rintro e w12 ⟨r12, rfl, rfl, hb12⟩
  have HB12w := Lib.hid hb12
  have HB12 := Lib.hid (HB11.out.trans (hb12.mono HB11.out.size))
  have S12 := HS11.out.trans (.of_below hb12)
  obtain ⟨l34, l45, lw3, hs5⟩ := HL.out
  obtain ⟨g0, g1, g2, g3, g4, g5, g6, g7, g8⟩ := H1.out.at (S12.2 _ (Or.inl (by have := HBB.out.size; omega)) (by have := HBB.out.size; omega))
  clear d0 d1 d2 d3 d4 d5 d6 d7 d8 hb12 S12 l34 l45 lw3 hs5
  go_wp2_with fail
  refine (toM_any (HT.out _ HB12.out) hn).mono ?_
  rintro e w13 ⟨v13, rfl, ho13, hb13⟩
  have HO13 := Lib.hid ho13
  have HB13 := Lib.hid (hb13)
  have HB13f := Lib.hid (HB12.out.trans (hb13.mono HB12.out.size))
  clear ho13 hb13 g0 g1 g2 g3 g4 g5 g6 g7 g8
  go_wp2_with fail
  refine (cpI_any (HKA.out _ HB13f.out) HO13.out.tm hn).mono ?_
  rintro e w14 ⟨T5, ok5, v14, rfl, hP5, ⟨tp5, tc5, rp5, rc5, p5, c5, rfl, ho14⟩, hb14⟩
  obtain ⟨rfl, rfl⟩ := cp_one HP.out hP5
  have hba := al_below w14 (.cells (tmC T tp5 tc5 rp5 rc5 p5 c5) 35)
  have hb12b := HB13.out.trans ((hb14.trans (hba.mono hb14.size)).mono HB13.out.size)
  have HB12b := Lib.hid hb12b
  have S14 := (HS11.out.trans (.of_below HB12w.out)).trans (.of_below hb12b)
  obtain ⟨l34, l45, lw3, hs5⟩ := HL.out
  have HEQ := Lib.hid (eqM_any (⟨_, _, _, _, _, _, rfl, (ho14.keep hba).tm⟩ : TM (w14.alloc (.cells (tmC T tp5 tc5 rp5 rc5 p5 c5) 35)) _ T (tmV T tp5 tc5 rp5 rc5 p5 c5)) (HWW.out.stays (S14.mono (fun z hz => by omega))))
  obtain ⟨f0, f1, f2, f3, f4, f5, f6, f7, f8⟩ := H4.out.at (S14.2 _ (Or.inl (by omega)) (by omega))
  obtain ⟨d0, d1, d2, d3, d4, d5, d6, d7, d8⟩ := Bx9.new w14 T tp5 tc5 rp5 rc5 p5 c5 35
  have HS14 := Lib.hid S14
  clear ho14 hb14 hba hb12b S14 l34 l45 lw3 hs5 hP5
  go_wp2_with fail
  refine HEQ.out.mono ?_
  rintro e w15 ⟨b15, he15, rfl, hb15⟩
  obtain rfl : b15 = true := by simpa using he15
  have S15 := HS14.out.trans (.of_below hb15)
  have b11 := HB12w.out.trans (((HB12b.out.trans (hb15.mono HB12b.out.size))).mono HB12w.out.size)
  have HB15 := Lib.hid (HB11.out.trans (b11.mono HB11.out.size))
  have hl5 := HL.out.2.2.2
  clear f0 f1 f2 f3 f4 f5 f6 f7 f8 d0 d1 d2 d3 d4 d5 d6 d7 d8
  obtain ⟨d0, d1, d2, d3, d4, d5, d6, d7, d8⟩ := H6.out.at (S15.2 _ (Or.inr rfl) (by omega))
  have hH1 := heldTm_any (HO11.out.tm.keep b11) (Nat.le_refl _) (by have := HN.out; omega)
  rw [HN.out] at hH1
  have HH2 := Lib.hid (show Calls Tryd.prog 18 #[(tmV T tp4 tc4 rp4 rc4 p4 c4), .int .i64 1] w15 _ from hH1)
  clear he15 hb15 S15 b11 hH1 HEQ hl5
  go_wp2_with fail
  refine HH2.out.mono ?_
  rintro e w16 ⟨r16, rfl, rfl, hb16⟩
  have HB16 := Lib.hid (HB15.out.trans (hb16.mono HB15.out.size))
  clear d0 d1 d2 d3 d4 d5 d6 d7 d8 hb16
  go_wp2_with fail
  go_ret
  exact ⟨rfl, HB16.out⟩
end Go.Proofs.YtingnigiijdllaaDoor
namespace Go.Proofs.YtingnigiijdllaaDoor
open Go Go.ChangeShapes Go.WideShapes Go.ChangeAt Go.RowKit

section
variable {H : Type} {enc : TypeId × Value → H} {P : Program}
theorem trodAll_below (hl : laidOutB P = true) {W W' : World} (hb : Below W.heap.size W W') : ∀ (ts : List TypeId) (vs : List Value) (ds : List (DataW H)) (ps : List MemPlace),
    (∀ t ∈ ts, P.readableRec t = true ∧ t < P.types.size) → DataW.TrodAll enc P W 0 (fun _ => true) true ts vs ds ps → (∀ x ∈ ps, x.block < W.heap.size) →
    DataW.TrodAll enc P W' 0 (fun b => decide (b < W.heap.size)) true ts vs ds ps
  | [], [], [], _, _, h, _ => h
  | t :: ts, v :: vs, d :: ds, ps, hr, h, hlt => by
    obtain ⟨p, q, h1, h2, rfl⟩ := h
    have ht := hr t (List.mem_cons_self ..)
    exact ⟨p, q, Below.trod hl ht.1 ht.2 h1 hb (fun x hx => hlt x (List.mem_append_left _ hx)), trodAll_below hl hb ts vs ds q (fun u hu => hr u (List.mem_cons_of_mem _ hu)) h2 (fun x hx => hlt x (List.mem_append_right _ hx)), rfl⟩
  | [], _ :: _, _, _, _, h, _ => h.elim
  | [], [], _ :: _, _, _, h, _ => h.elim
  | _ :: _, [], _, _, _, h, _ => h.elim
  | _ :: _, _ :: _, [], _, _, h, _ => h.elim

end
end Go.Proofs.YtingnigiijdllaaDoor
namespace Go.Proofs.YtingnigiijdllaaDoor
open Go Go.ChangeShapes Go.WideShapes Go.ChangeAt Go.RowKit

section
variable {H : Type} {enc : TypeId × Value → H} {P : Program}

theorem law_postV {f : Func} {s : ChangeSpec} {W W' : World} {args : Array Value} {ds gs : List (DataW H)} {before : List MemPlace} {tb : TypeId} (hl : laidOutB P = true)
    (hts : (f.params.toList.all fun t => P.readableRec t && decide (t < P.types.size)) = true) (hbool : P.underlying tb = some .bool) (hres : f.resultTypes = #[tb]) (hvars : varsRowed P s.vars = true)
    (hW : DataW.Whole enc P f.params.toList s.vars false W args.toList ds gs before) (hr : (s.fn H (ds ++ gs)).results = [.lit (.bool true)]) (ha : (s.fn H (ds ++ gs)).args = ds) (hv : (s.fn H (ds ++ gs)).vars = gs)
    (hb : Below W.heap.size W W') : s.post enc P f false true false false W args (.bool true) W' := by
  have hW0 := hW
  obtain ⟨p, q, hA, hV, rfl, hfz, _⟩ := hW
  have hlt : ∀ x ∈ p, x.block < W.heap.size := fun x hx => hW0.lt x (List.mem_append_left _ hx)
  refine ⟨ds, gs, p ++ q, [], p, q, hW0, ?_, ?_, ?_, hb.frame _, fun h => by cases h⟩
  · rw [hr, hres]
    exact trodAll_mk1 (shut_bool hbool _)
  · rw [ha]
    refine trodAll_below hl hb _ _ _ _ (fun t ht => ?_) hA hlt
    have := List.all_eq_true.1 hts t ht
    simp only [Bool.and_eq_true, decide_eq_true_eq] at this
    exact this
  · rw [hv]
    exact Below.trodVars hl hb hvars hV
end
end Go.Proofs.YtingnigiijdllaaDoor
namespace Go.Proofs.YtingnigiijdllaaDoor
open Go Go.RowKit

set_option maxRecDepth 100000 in
set_option maxHeartbeats 8000000 in
theorem lawLiftOf {C : Nat → Prop} (t : Tm) (v : Value) (w : World) (hka : KA w) (h : TM w C t v) (hf : t.fit) :
    Calls Tryd.prog 6 #[v] w fun e w' => e = .returned (.bool true) ∧ Below w.heap.size w w' := by
  have HKA := Lib.hid (fun (w' : World) (hb : Below w.heap.size w w') => hka.below hb)
  clear hka
  have HT := Lib.hid (fun w' (hb : Below w.heap.size w w') => h.keep hb)
  obtain ⟨tp, tc, rp, rc, p, c, rfl, _⟩ := h
  have HB0 := Lib.hid (al_below w (.cells (tmC t tp tc rp rc p c) 27))
  have HX0 := Lib.hid (Bx9.new w t tp tc rp rc p c 27)
  go_enter Tryd.func6, Tryd.ntmps6
  go_wp2_with fail
  refine (szM_any (HT.out _ HB0.out) hf 1048576 (by omega) (by omega)).mono ?_
  rintro e w1 ⟨r, hr, rfl, hb1⟩
  have HX1 := Lib.hid (HX0.out.keep hb1)
  have HB1 := Lib.hid (HB0.out.trans (hb1.mono HB0.out.size))
  have HR := Lib.hid hr
  clear hr hb1
  by_cases h0 : r < 0
  · go_wp2_with fail
    go_ret
    exact ⟨rfl, HB1.out⟩
  have hn : t.wt ≤ 1048576 := by have := HR.out; unfold SzEnds at this; omega
  have hn2 : t.wt ≤ 2097152 := by omega
  obtain ⟨g0, g1, g2, g3, g4, g5, g6, g7, g8⟩ := HX1.out
  go_wp2_with fail
  refine (toM_any (HT.out _ HB1.out) hn).mono ?_
  rintro e w2 ⟨v1, rfl, ho1, hb2⟩
  have HO1 := Lib.hid ho1
  have HB2 := Lib.hid (HB1.out.trans (hb2.mono HB1.out.size))
  have HX2 := Lib.hid (HX1.out.keep hb2)
  clear ho1 hb2 g0 g1 g2 g3 g4 g5 g6 g7 g8
  go_wp2_with fail
  refine (lfS_at HO1.out.tm hn).mono ?_
  rintro e w3 ⟨T, ok, v2, rfl, hP, ⟨tp2, tc2, rp2, rc2, p2, c2, rfl, hw⟩, hb3⟩
  have hTw : T.wt ≤ 1048577 := by have := lf_wt hP; omega
  have hcn := T.cntT_wt
  have hct := t.cntT_wt
  have HP := Lib.hid hP
  have HB3 := Lib.hid (HB2.out.trans (hb3.mono HB2.out.size))
  have HW := Lib.hid (hw.mono (C' := (· < w3.heap.size)) (fun b _ hl => hl))
  have hba := al_below w3 (.cells (tmC T tp2 tc2 rp2 rc2 p2 c2) 35)
  have HBA := Lib.hid hba
  have hx := ((HX2.out.keep hb3).keep hba)
  have HX3 := Lib.hid hx
  have HW4 := Lib.hid (Bx9.new w3 T tp2 tc2 rp2 rc2 p2 c2 35)
  obtain ⟨g0, g1, g2, g3, g4, g5, g6, g7, g8⟩ := hx
  have HB3a := Lib.hid (HB3.out.trans (hba.mono HB3.out.size))
  clear hw hb3 hba hP
  go_wp2_with fail
  refine (toM_any (HT.out _ HB3a.out) hn).mono ?_
  rintro e w4 ⟨v3, rfl, ⟨tp3, tc3, rp3, rc3, p3, c3, rfl, ho3⟩, hb4⟩
  have HO3 := Lib.hid ho3
  have HB4w := Lib.hid hb4
  have hba := al_below w4 (.cells (tmC t tp3 tc3 rp3 rc3 p3 c3) 35)
  have HBA4 := Lib.hid hba
  have hx := Bx9.new w4 t tp3 tc3 rp3 rc3 p3 c3 35
  have HX5 := Lib.hid hx
  have HTA := Lib.hid (⟨_, _, _, _, _, _, rfl, (ho3.keep hba).tm⟩ : TM (w4.alloc (.cells (tmC t tp3 tc3 rp3 rc3 p3 c3) 35)) _ t (tmV t tp3 tc3 rp3 rc3 p3 c3))
  have HB4 := Lib.hid (HB3a.out.trans (hb4.mono HB3a.out.size))
  have HB4a := Lib.hid (HB4.out.trans (hba.mono HB4.out.size))
  clear g0 g1 g2 g3 g4 g5 g6 g7 g8 ho3 hb4 hba
  obtain ⟨g0, g1, g2, g3, g4, g5, g6, g7, g8⟩ := hx
  go_wp2_with fail
  refine (lfI_any (HKA.out _ HB4a.out) HTA.out hn).mono ?_
  rintro e w5 ⟨T4, ok4, v4, rfl, hP4, ⟨tp4, tc4, rp4, rc4, p4, c4, rfl, ho4⟩, hb5⟩
  obtain ⟨rfl, rfl⟩ := lf_one HP.out hP4
  have hba := al_below w5 (.cells (tmC T tp4 tc4 rp4 rc4 p4 c4) 35)
  obtain ⟨w5b, hw5⟩ : ∃ w5b, w5.alloc (.cells (tmC T tp4 tc4 rp4 rc4 p4 c4) 35) = w5b := ⟨_, rfl⟩
  have hs3 : (w3.alloc (.cells (tmC T tp2 tc2 rp2 rc2 p2 c2) 35)).heap.size = w3.heap.size + 1 := by simp
  have hs4 : (w4.alloc (.cells (tmC t tp3 tc3 rp3 rc3 p3 c3) 35)).heap.size = w4.heap.size + 1 := by simp
  have hs5 : w5b.heap.size = w5.heap.size + 1 := by rw [← hw5]; simp
  have l34 := HB4w.out.size
  have l45 := hb5.size
  have lw3 := HB3.out.size
  rw [hs3] at l34
  rw [hs4] at l45
  have XX6 : Bx9 w5b w5.heap.size T tp4 tc4 rp4 rc4 p4 c4 := hw5 ▸ Bx9.new w5 T tp4 tc4 rp4 rc4 p4 c4 35
  rw [hw5] at hba
  have hb5b := (hb5.trans (hba.mono hb5.size))
  have XX5 := (HX5.out.keep hb5b)
  have hb3b := (HB4w.out.trans ((HBA4.out.trans (hb5b.mono HBA4.out.size)).mono HB4w.out.size))
  have XX4 := HW4.out.keep hb3b
  have XX1 := HX3.out.keep hb3b
  have WW : TM w5b (· < w3.heap.size) T (tmV T tp2 tc2 rp2 rc2 p2 c2) := ⟨_, _, _, _, _, _, rfl, ((HW.out.stays (.of_below HBA.out)).stays (.of_below hb3b))⟩
  have AA : OMv w5b t (tmV t tp3 tc3 rp3 rc3 p3 c3) (fun z => w3.heap.size + 1 ≤ z ∧ z < w4.heap.size) := ⟨_, _, _, _, _, _, rfl, ((HO3.out.keep HBA4.out).keep hb5b).mono (fun z hz => by rw [hs3] at hz; exact hz)⟩
  have GG : OMv w5b T (tmV T tp4 tc4 rp4 rc4 p4 c4) (fun z => w4.heap.size + 1 ≤ z ∧ z < w5.heap.size) := ⟨_, _, _, _, _, _, rfl, (ho4.keep hba).mono (fun z hz => by rw [hs4] at hz; exact hz)⟩
  have BB : Below w.heap.size w w5b := HB4a.out.trans (hb5b.mono HB4a.out.size)
  have H1 := Lib.hid XX1
  have H4 := Lib.hid XX4
  have H5 := Lib.hid XX5
  have H6 := Lib.hid XX6
  have HWW := Lib.hid WW
  have HAA := Lib.hid AA
  have HGG := Lib.hid GG
  have HBB := Lib.hid BB
  have HL := Lib.hid (And.intro l34 (And.intro l45 (And.intro lw3 hs5)))
  have HW5 := Lib.hid hw5
  obtain ⟨f0, f1, f2, f3, f4, f5, f6, f7, f8⟩ := XX4
  obtain ⟨d0, d1, d2, d3, d4, d5, d6, d7, d8⟩ := XX6
  rw [← hw5] at f0 f1 f2 f3 f4 f5 f6 f7 f8 d0 d1 d2 d3 d4 d5 d6 d7 d8
  have HEQ := Lib.hid (eqM_any GG.tm WW)
  rw [← hw5] at HEQ
  clear g0 g1 g2 g3 g4 g5 g6 g7 g8 ho4 hb5 hba hw5 hs3 hs4 hs5 l34 l45 lw3 XX1 XX5 WW AA GG BB hb5b hb3b hP4
  go_wp2_with fail
  refine HEQ.out.mono ?_
  rintro e w6 ⟨b6, he6, rfl, hb6⟩
  rw [HW5.out] at hb6
  obtain rfl : b6 = true := by simpa using he6
  have HS6 := Lib.hid hb6
  have HB6 := Lib.hid (HBB.out.trans (hb6.mono HBB.out.size))
  clear f0 f1 f2 f3 f4 f5 f6 f7 f8 d0 d1 d2 d3 d4 d5 d6 d7 d8
  obtain ⟨g0, g1, g2, g3, g4, g5, g6, g7, g8⟩ := H1.out.keep hb6
  obtain ⟨d0, d1, d2, d3, d4, d5, d6, d7, d8⟩ := H5.out.keep hb6
  have HAX := Lib.hid (fun (W : World) (hW : Below w6.heap.size w6 W) => HAA.out.tm.keep (HS6.out.trans (hW.mono HS6.out.size)))
  clear he6 hb6 HEQ
  go_wp2_with fail
  go_region_held3 (fun w' => w'.cell? ⟨w.heap.size, 0, none⟩ = some (.int .i64 t.kind) ∧ w'.cell? ⟨w.heap.size, 1, none⟩ = some (.string t.name) ∧ w'.cell? ⟨w.heap.size, 2, none⟩ = some (.string t.other) ∧ w'.cell? ⟨w.heap.size, 3, none⟩ = some (.int .i64 t.n) ∧ w'.cell? ⟨w.heap.size, 4, none⟩ = some (.int .i64 t.ty.kind) ∧ w'.cell? ⟨w.heap.size, 5, none⟩ = some (.slice tp t.ty.args.length tc) ∧ w'.cell? ⟨w.heap.size, 6, none⟩ = some (.int .i64 t.res.kind) ∧ w'.cell? ⟨w.heap.size, 7, none⟩ = some (.slice rp t.res.args.length rc) ∧ w'.cell? ⟨w.heap.size, 8, none⟩ = some (.slice p t.args.length c) ∧ w'.cell? ⟨w4.heap.size, 0, none⟩ = some (.int .i64 t.kind) ∧ w'.cell? ⟨w4.heap.size, 1, none⟩ = some (.string t.name) ∧ w'.cell? ⟨w4.heap.size, 2, none⟩ = some (.string t.other) ∧ w'.cell? ⟨w4.heap.size, 3, none⟩ = some (.int .i64 t.n) ∧ w'.cell? ⟨w4.heap.size, 4, none⟩ = some (.int .i64 t.ty.kind) ∧ w'.cell? ⟨w4.heap.size, 5, none⟩ = some (.slice tp3 t.ty.args.length tc3) ∧ w'.cell? ⟨w4.heap.size, 6, none⟩ = some (.int .i64 t.res.kind) ∧ w'.cell? ⟨w4.heap.size, 7, none⟩ = some (.slice rp3 t.res.args.length rc3) ∧ w'.cell? ⟨w4.heap.size, 8, none⟩ = some (.slice p3 t.args.length c3) ∧ Below w6.heap.size w6 w')
    (first
      | (go_keep; done)
      | exact ⟨g0, g1, g2, g3, g4, g5, g6, g7, g8, d0, d1, d2, d3, d4, d5, d6, d7, d8, (Below.refl _ _).drew⟩
      | exact keep18 hb8 (by assumption)
      | exact keep18 hb7 (by assumption))
    (first
      | (go_at_call 10; refine (toM_any (HT.out _ (HB6.out.trans (((Below.refl _ _).drew).mono HB6.out.size))) hn).mono ?_; rintro e w7 ⟨v7, rfl, ho7, hb7⟩)
      | (go_at_call 12; refine (eqM_any (HAX.out _ (((Below.refl _ _).drew.trans hb7))) ho7.tm).mono ?_; rintro e w8 ⟨b8, he8, rfl, hb8⟩))
  rename_i hH
  have hbl := hH.2.2.2.2.2.2.2.2.2.2.2.2.2.2.2.2.2.2
  obtain rfl : b8 = true := by simpa using he8
  have S8 := HS6.out.trans (hbl.mono HS6.out.size)
  have HS8 := Lib.hid S8
  have HB8 := Lib.hid (HBB.out.trans (S8.mono HBB.out.size))
  clear g0 g1 g2 g3 g4 g5 g6 g7 g8 d0 d1 d2 d3 d4 d5 d6 d7 d8
  obtain ⟨d0, d1, d2, d3, d4, d5, d6, d7, d8⟩ := H5.out.keep S8
  obtain ⟨m, hm⟩ : ∃ m : Nat, 1 + t.cntT = m := ⟨_, rfl⟩
  have hM := markTm_any (HAA.out.keep S8) 1 (Nat.le_refl _) (by omega)
  rw [hm] at hM
  have HM := Lib.hid (show Calls Tryd.prog 17 #[(tmV t tp3 tc3 rp3 rc3 p3 c3), .int .i64 1] w8 _ from hM)
  have hmm : ¬ ((m : Int) < 0) := by omega
  clear hH hbl he8 hb8 hb7 ho7 S8 hM hm
  go_wp2_with fail
  refine HM.out.mono ?_
  rintro e w9 ⟨rfl, _, hbt9⟩
  obtain ⟨l34, l45, lw3, hs5⟩ := HL.out
  have S9 : Stays (fun z => z < w3.heap.size + 1 ∨ (w4.heap.size ≤ z ∧ z < w5.heap.size + 1)) w5b w9 := (Stays.of_below HS8.out).trans (hbt9.stays (fun z h1 h2 => by omega))
  have B9 : Below w.heap.size w w9 := HB8.out.trans (hbt9.below _ HB8.out.size (fun z hz => by omega))
  have HS9 := Lib.hid S9
  have HB9 := Lib.hid B9
  clear d0 d1 d2 d3 d4 d5 d6 d7 d8
  obtain ⟨f0, f1, f2, f3, f4, f5, f6, f7, f8⟩ := H4.out.at (S9.2 _ (by show w3.heap.size < _ ∨ _; omega) (by omega))
  obtain ⟨d0, d1, d2, d3, d4, d5, d6, d7, d8⟩ := H6.out.at (S9.2 _ (by show _ ∨ (_ ∧ w5.heap.size < _); omega) (by omega))
  have HEQ := Lib.hid (eqM_any (HGG.out.stays (S9.mono (fun z hz => by omega))).tm (HWW.out.stays (S9.mono (fun z hz => by omega))))
  clear hbt9 S9 B9 l34 l45 lw3 hs5
  go_wp2_with fail
  refine HEQ.out.mono ?_
  rintro e w10 ⟨b10, he10, rfl, hb10⟩
  obtain rfl : b10 = true := by simpa using he10
  obtain ⟨l34, l45, lw3, hs5⟩ := HL.out
  have S10 := HS9.out.trans (.of_below hb10)
  have HS10 := Lib.hid S10
  have HB10 := Lib.hid (HB9.out.trans (hb10.mono HB9.out.size))
  clear f0 f1 f2 f3 f4 f5 f6 f7 f8 d0 d1 d2 d3 d4 d5 d6 d7 d8
  obtain ⟨d0, d1, d2, d3, d4, d5, d6, d7, d8⟩ := H6.out.at (S10.2 _ (by show _ ∨ (_ ∧ w5.heap.size < _); omega) (by omega))
  obtain ⟨n, hn2'⟩ : ∃ n : Nat, 1 + T.cntT = n := ⟨_, rfl⟩
  have HN := Lib.hid hn2'
  have hM := markTm_any (HGG.out.stays (S10.mono (fun z hz => by omega))) 1 (Nat.le_refl _) (by omega)
  rw [hn2'] at hM
  have HM2 := Lib.hid (show Calls Tryd.prog 17 #[(tmV T tp4 tc4 rp4 rc4 p4 c4), .int .i64 1] w10 _ from hM)
  have hnn : ¬ ((n : Int) < 0) := by omega
  clear he10 hb10 S10 hM hn2' l34 l45 lw3 hs5 HEQ
  go_wp2_with fail
  refine HM2.out.mono ?_
  rintro e w11 ⟨rfl, hO, hbt11⟩
  obtain ⟨l34, l45, lw3, hs5⟩ := HL.out
  have S11 : Stays (fun z => z < w3.heap.size + 1 ∨ z = w5.heap.size) w5b w11 := ((HS10.out.mono (fun z hz => by omega))).trans (hbt11.stays (fun z h1 h2 => by omega))
  have B11 : Below w.heap.size w w11 := HB10.out.trans (hbt11.below _ HB10.out.size (fun z hz => by omega))
  have HS11 := Lib.hid S11
  have HB11 := Lib.hid B11
  have HO11 := Lib.hid hO
  clear d0 d1 d2 d3 d4 d5 d6 d7 d8
  obtain ⟨d0, d1, d2, d3, d4, d5, d6, d7, d8⟩ := H6.out.at (S11.2 _ (Or.inr rfl) (by omega))
  have hH1 := heldTm_any hO.tm (Nat.le_refl _) (by omega)
  rw [HN.out] at hH1
  have HH1 := Lib.hid (show Calls Tryd.prog 18 #[(tmV T tp4 tc4 rp4 rc4 p4 c4), .int .i64 1] w11 _ from hH1)
  clear hbt11 S11 B11 hO hH1 l34 l45 lw3 hs5
  go_wp2_with fail
  refine HH1.out.mono ?_
  rintro e w12 ⟨r12, rfl, rfl, hb12⟩
  have HB12w := Lib.hid hb12
  have HB12 := Lib.hid (HB11.out.trans (hb12.mono HB11.out.size))
  have S12 := HS11.out.trans (.of_below hb12)
  obtain ⟨l34, l45, lw3, hs5⟩ := HL.out
  obtain ⟨g0, g1, g2, g3, g4, g5, g6, g7, g8⟩ := H1.out.at (S12.2 _ (Or.inl (by have := HBB.out.size; omega)) (by have := HBB.out.size; omega))
  clear d0 d1 d2 d3 d4 d5 d6 d7 d8 hb12 S12 l34 l45 lw3 hs5
  go_wp2_with fail
  refine (toM_any (HT.out _ HB12.out) hn).mono ?_
  rintro e w13 ⟨v13, rfl, ho13, hb13⟩
  have HO13 := Lib.hid ho13
  have HB13 := Lib.hid (hb13)
  have HB13f := Lib.hid (HB12.out.trans (hb13.mono HB12.out.size))
  clear ho13 hb13 g0 g1 g2 g3 g4 g5 g6 g7 g8
  go_wp2_with fail
  refine (lfI_any (HKA.out _ HB13f.out) HO13.out.tm hn).mono ?_
  rintro e w14 ⟨T5, ok5, v14, rfl, hP5, ⟨tp5, tc5, rp5, rc5, p5, c5, rfl, ho14⟩, hb14⟩
  obtain ⟨rfl, rfl⟩ := lf_one HP.out hP5
  have hba := al_below w14 (.cells (tmC T tp5 tc5 rp5 rc5 p5 c5) 35)
  have hb12b := HB13.out.trans ((hb14.trans (hba.mono hb14.size)).mono HB13.out.size)
  have HB12b := Lib.hid hb12b
  have S14 := (HS11.out.trans (.of_below HB12w.out)).trans (.of_below hb12b)
  obtain ⟨l34, l45, lw3, hs5⟩ := HL.out
  have HEQ := Lib.hid (eqM_any (⟨_, _, _, _, _, _, rfl, (ho14.keep hba).tm⟩ : TM (w14.alloc (.cells (tmC T tp5 tc5 rp5 rc5 p5 c5) 35)) _ T (tmV T tp5 tc5 rp5 rc5 p5 c5)) (HWW.out.stays (S14.mono (fun z hz => by omega))))
  obtain ⟨f0, f1, f2, f3, f4, f5, f6, f7, f8⟩ := H4.out.at (S14.2 _ (Or.inl (by omega)) (by omega))
  obtain ⟨d0, d1, d2, d3, d4, d5, d6, d7, d8⟩ := Bx9.new w14 T tp5 tc5 rp5 rc5 p5 c5 35
  have HS14 := Lib.hid S14
  clear ho14 hb14 hba hb12b S14 l34 l45 lw3 hs5 hP5
  go_wp2_with fail
  refine HEQ.out.mono ?_
  rintro e w15 ⟨b15, he15, rfl, hb15⟩
  obtain rfl : b15 = true := by simpa using he15
  have S15 := HS14.out.trans (.of_below hb15)
  have b11 := HB12w.out.trans (((HB12b.out.trans (hb15.mono HB12b.out.size))).mono HB12w.out.size)
  have HB15 := Lib.hid (HB11.out.trans (b11.mono HB11.out.size))
  have hl5 := HL.out.2.2.2
  clear f0 f1 f2 f3 f4 f5 f6 f7 f8 d0 d1 d2 d3 d4 d5 d6 d7 d8
  obtain ⟨d0, d1, d2, d3, d4, d5, d6, d7, d8⟩ := H6.out.at (S15.2 _ (Or.inr rfl) (by omega))
  have hH1 := heldTm_any (HO11.out.tm.keep b11) (Nat.le_refl _) (by have := HN.out; omega)
  rw [HN.out] at hH1
  have HH2 := Lib.hid (show Calls Tryd.prog 18 #[(tmV T tp4 tc4 rp4 rc4 p4 c4), .int .i64 1] w15 _ from hH1)
  clear he15 hb15 S15 b11 hH1 HEQ hl5
  go_wp2_with fail
  refine HH2.out.mono ?_
  rintro e w16 ⟨r16, rfl, rfl, hb16⟩
  have HB16 := Lib.hid (HB15.out.trans (hb16.mono HB15.out.size))
  clear d0 d1 d2 d3 d4 d5 d6 d7 d8 hb16
  go_wp2_with fail
  go_ret
  exact ⟨rfl, HB16.out⟩
end Go.Proofs.YtingnigiijdllaaDoor
