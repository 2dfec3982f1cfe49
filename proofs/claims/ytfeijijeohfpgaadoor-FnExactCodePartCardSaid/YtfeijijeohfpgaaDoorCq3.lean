/-
  Several texts of the proof in one (each says below what it holds): TmHeld RangeT SpecTy SpecTy2 SpecTy3 SpecEq Kind Kind2 Aid TmSpec NodesM LoopW SizesM LvP0 Reduce Apply IsName.
-/
import Derived.Test.YtfeijijeohfpgaaDoorCq2
import Derived.Test.YtfeijijeohfpgaaDoorCq1
import Derived.RangeFuncKeeps
import Derived.RangeFuncLeaves
import Derived.RangeFuncNested
import Derived.RangeFuncBound
import Derived.RangeFuncCalls
import Derived.Shelf.Abstract
import Derived.IntWalk
import Derived.Shelf.RegionOpen
import Derived.WalkKit
import Derived.TacticsInMore
import Derived.LoopNIn
import Derived.LoopIn
import Derived.Sort.LoopGhostIn
import Derived.Deep.LoopGhost
import Derived.Deep.CutRange
import Derived.Deep.RegionHeldLaw
import Derived.Test.YtfeijijeohfpgaaDoorProg
import Derived.WalkSmall
import Derived.Laws.RangeAny
import Derived.LoopTactic
set_option linter.unusedVariables false
set_option linter.unusedSimpArgs false
namespace Go.Proofs.YtfeijijeohfpgaaDoor
open Go Go.RowKit

set_option maxRecDepth 100000 in
set_option maxHeartbeats 8000000 in
theorem heldMS_any {w0 : World} {C : Nat → Prop} {us : List Tm} {v : Value} (h : DM w0 C (tmD us) v) : ∀ (w : World) (k : Nat) (ts : List Tm), us = markM k ts → Stays C w0 w → 1 ≤ k → k + cntM ts ≤ 1099511627776 →
    Calls Tryd.prog 52 #[v, .int .i64 k] w (IntRet (fun r => r = ((k + cntM ts : Nat) : Int)) w) := by
  refine tm_ind (motive := fun us v => ∀ (w : World) (k : Nat) (ts : List Tm), us = markM k ts → Stays C w0 w → 1 ≤ k → k + cntM ts ≤ 1099511627776 →
    Calls Tryd.prog 52 #[v, .int .i64 k] w (IntRet (fun r => r = ((k + cntM ts : Nat) : Int)) w)) ?_ _ (Nat.le_refl _) h
  intro us q d hl H w k ts hu hst hk hn
  have hlu : us.length = ts.length := by rw [hu, markM_length]
  have hlen := cntM_ge ts
  have HH := Lib.hid H
  have HST := Lib.hid hst
  have HLU := Lib.hid hlu
  have HU := Lib.hid (fun j (hj : j < us.length) (hj2 : j < ts.length) => show us[j] = ts[j].mark (k + cntM (ts.take j)) by
    subst hu
    exact markM_get ts k j hj2)
  rw [hlu] at hl ⊢
  clear H hst hu hlu
  go_enter Tryd.func52, Tryd.ntmps52
  go_wp2_with fail
  go_loopw [1, 5] (fun q i wr => ∃ (j n : Nat), j ≤ ts.length ∧ i = .int .i64 j ∧ q = .int .i64 n ∧ n = k + cntM (ts.take j) ∧ Below w.heap.size w wr) (fun _ i _ => ts.length - (intOf i).toNat)
  case atStart => exact ⟨0, k, Nat.zero_le _, rfl, rfl, by simp [cntM], Below.refl _ _⟩
  case round =>
    obtain ⟨j, n, hj, rfl, rfl, hn2, hbr⟩ := hrel
    have HN := Lib.hid hn2
    have HB := Lib.hid hbr
    have hnb : n ≤ 1099511627776 := by have := cntM_take_le ts j; omega
    clear hn2 hbr
    by_cases hlj : j < ts.length
    · have hju : j < us.length := by rw [HLU.out]; exact hlj
      obtain ⟨b, o, tp, tc, rp, rc, p, c, rfl, hC, hb, h9, hT, hI⟩ := HH.out j hju
      have hx := HU.out j hju hlj
      have hxm : us[j] = .mk (n : Nat) (mk (n + 1)) (mk (n + 2)) ((n + 3 : Nat) : Int) (.mk ((n + 4 : Nat) : Int) (markS (n + 5) ts[j].ty.args)) (.mk ((n + 5 + nodesS ts[j].ty.args : Nat) : Int) (markS (n + 6 + nodesS ts[j].ty.args) ts[j].res.args)) (markM (n + 6 + nodesS ts[j].ty.args + nodesS ts[j].res.args) ts[j].args) := by
        rw [hx, ← HN.out, tm_mark_eq]
      obtain ⟨x, hxx⟩ : ∃ x, us[j] = x := ⟨_, rfl⟩
      rw [hxx] at h9 hT hI hxm
      subst hxm
      have H9 := Lib.hid h9
      have HT := Lib.hid hT
      have HI := Lib.hid hI
      have hc2 := cntM_take ts j hlj
      have hc3 := cntM_take_le ts (j + 1)
      have hcq := ts[j].cnt_eq
      have HC2 := Lib.hid hc2
      have HCQ := Lib.hid hcq
      have hbnd : n + 6 + nodesS ts[j].ty.args + nodesS ts[j].res.args + cntM ts[j].args ≤ 1099511627776 := by have := HN.out; omega
      have i0 : (0 : Int) ≤ (j : Int) := Int.natCast_nonneg _
      have i1 : (j : Int) < (ts.length : Int) := by omega
      clear hx hxx hc2 hc3 hcq hT hI h9 hC
      obtain ⟨g0, g1, g2, g3, g4, g5, g6, g7, g8⟩ := H9.out wr (HST.out.trans (.of_below HB.out))
      simp only [cKind, cName, cOther, cN, cTy, cRes, cArgs, yKind, yArgs] at g0 g1 g2 g3 g4 g5 g6 g7 g8
      clear g2 g3 g4 g5 g6 g7 g8
      go_wp2_with fail
      go_region_held3 (fun w' => w'.cell? ⟨b, o + j * 9 + 1, none⟩ = some (.string (mk (n + 1))) ∧ Below w.heap.size w w')
        (first
          | (go_keep; done)
          | exact ⟨by simp [*], HB.out.trans ((Below.refl _ _).drew.mono HB.out.size)⟩
          | exact keep_bothM hb1 (by assumption))
        (first | (go_at_call 78; refine (markText_any (n + 1) (by omega) (by omega) _).mono ?_; rintro e w1 ⟨rfl, hb1⟩))
      rename_i hH
      have HB1 := Lib.hid hH.2
      clear hH hb1 g0 g1
      obtain ⟨g0, g1, g2, g3, g4, g5, g6, g7, g8⟩ := H9.out _ (HST.out.trans (.of_below HB1.out))
      simp only [cKind, cName, cOther, cN, cTy, cRes, cArgs, yKind, yArgs] at g0 g1 g2 g3 g4 g5 g6 g7 g8
      clear g0 g1 g3 g4 g5 g6 g7 g8
      go_wp2_with fail
      go_region_held3 (fun w' => w'.cell? ⟨b, o + j * 9 + 2, none⟩ = some (.string (mk (n + 2))) ∧ Below w.heap.size w w')
        (first
          | (go_keep; done)
          | exact ⟨by simp [*], HB1.out.trans ((Below.refl _ _).drew.mono HB1.out.size)⟩
          | exact keep_bothM hb1 (by assumption))
        (first | (go_at_call 78; refine (markText_any (n + 2) (by omega) (by omega) _).mono ?_; rintro e w2 ⟨rfl, hb1⟩))
      rename_i hH
      have HB2 := Lib.hid hH.2
      clear hH hb1 g2 HB1
      obtain ⟨g0, g1, g2, g3, g4, g5, g6, g7, g8⟩ := H9.out _ (HST.out.trans (.of_below HB2.out))
      simp only [cKind, cName, cOther, cN, cTy, cRes, cArgs, yKind, yArgs] at g0 g1 g2 g3 g4 g5 g6 g7 g8
      clear g0 g1 g2 g6 g7 g8
      have g3' := g3
      rw [show ((n + 3 : Nat) : Int) = (n : Int) + 1 + 1 + 1 by omega] at g3
      rw [show ((n + 4 : Nat) : Int) = (n : Int) + 1 + 1 + 1 + 1 by omega] at g4
      have hC5 := heldS_any HT.out.ty w2 (n + 5) ts[j].ty.args rfl (HST.out.trans (.of_below HB2.out)) (by omega)
      simp only [cTy, yArgs] at hC5
      rw [show ((n + 5 : Nat) : Int) = (n : Int) + 1 + 1 + 1 + 1 + 1 by omega] at hC5
      have HC5 := Lib.hid hC5
      clear hC5 g3'
      go_wp2_with fail
      refine HC5.out.mono ?_
      rintro e w3 ⟨r, rfl, rfl, hb3⟩
      have HB3 := Lib.hid (HB2.out.trans (hb3.mono HB2.out.size))
      have hnn : ¬ (((n + 5 + nodesS ts[j].ty.args : Nat) : Int) < 0) := by omega
      obtain ⟨h0, h1, h2, h3, h4, h5, h6, h7, h8⟩ := H9.out _ (HST.out.trans (.of_below HB3.out))
      simp only [cKind, cName, cOther, cN, cTy, cRes, cArgs, yKind, yArgs] at h0 h1 h2 h3 h4 h5 h6 h7 h8
      have hC7 := heldS_any HT.out.res w3 (n + 6 + nodesS ts[j].ty.args) ts[j].res.args rfl (HST.out.trans (.of_below HB3.out)) (by omega)
      simp only [cRes, yArgs] at hC7
      rw [show ((n + 6 + nodesS ts[j].ty.args : Nat) : Int) = ((n + 5 + nodesS ts[j].ty.args : Nat) : Int) + 1 by omega] at hC7
      have HC7 := Lib.hid hC7
      clear hC7 g3 g4 g5 hb3 HB2 h0 h1 h2 h3 h4 h5 h8
      go_wp2_with fail
      refine HC7.out.mono ?_
      rintro e w4 ⟨r, rfl, rfl, hb4⟩
      have HB4 := Lib.hid (HB3.out.trans (hb4.mono HB3.out.size))
      have hnn2 : ¬ (((n + 6 + nodesS ts[j].ty.args + nodesS ts[j].res.args : Nat) : Int) < 0) := by omega
      obtain ⟨h0, h1, h2, h3, h4, h5, h6', h7', h8⟩ := H9.out _ (HST.out.trans (.of_below HB4.out))
      simp only [cKind, cName, cOther, cN, cTy, cArgs, yKind, yArgs] at h0 h1 h2 h3 h4 h5 h8
      have hC8 := HI.out w4 (n + 6 + nodesS ts[j].ty.args + nodesS ts[j].res.args) ts[j].args rfl (HST.out.trans (.of_below HB4.out)) (by omega) (by omega)
      simp only [cArgs] at hC8
      have HC8 := Lib.hid hC8
      clear hC8 hb4 hnn h0 h1 h2 h3 h4 h5 h6 h7 h6' h7' HB3
      go_wp2_with fail
      refine HC8.out.mono ?_
      rintro e w5 ⟨r, rfl, rfl, hb5⟩
      have HB5 := Lib.hid (HB4.out.trans (hb5.mono HB4.out.size))
      have hnn : ¬ (((n + 6 + nodesS ts[j].ty.args + nodesS ts[j].res.args + cntM ts[j].args : Nat) : Int) < 0) := by omega
      clear hb5 h8 hnn2
      go_wp2_with fail
      go_roundw
      case rel => exact ⟨j + 1, n + 6 + nodesS ts[j].ty.args + nodesS ts[j].res.args + cntM ts[j].args, by omega, by go_num, rfl, by have := HC2.out; have := HCQ.out; have := HN.out; omega, HB5.out⟩
      case measure => simp [intOf]; omega
    · obtain rfl : j = ts.length := by omega
      have h1 := HN.out
      rw [List.take_length] at h1
      have H1 := Lib.hid h1
      clear h1
      go_wp2_with fail
      go_ret
      exact ⟨_, by rw [H1.out], rfl, HB.out⟩
def Tm.cntT (t : Tm) : Nat := nodesS t.ty.args + nodesS t.res.args + cntM t.args
def Tm.markT (k : Nat) (t : Tm) : Tm := .mk t.kind t.name t.other t.n (.mk t.ty.kind (markS k t.ty.args)) (.mk t.res.kind (markS (k + nodesS t.ty.args) t.res.args)) (markM (k + nodesS t.ty.args + nodesS t.res.args) t.args)
theorem Tm.cntT_wt (t : Tm) : t.cntT ≤ 6 * t.wt := by
  have := t.cnt_wt
  rw [t.cnt_eq] at this
  unfold Tm.cntT
  omega
theorem OSt.parts9 {w : World} {t : Tm} {tp rp p : Option Addr} {tc rc c : Nat} {F : Nat → Prop} (h : OSt w t.ds (tmL t tp tc rp rc p c) F) : ∃ F1 F2 F3 : Nat → Prop, OS w t.ty.args (.slice tp t.ty.args.length tc) F1 ∧ OS w t.res.args (.slice rp t.res.args.length rc) F2 ∧ DO w (tmD t.args) (.slice p t.args.length c) F3 ∧
    (∀ z, F1 z → F z ∧ ¬ F2 z ∧ ¬ F3 z ∧ z < w.heap.size) ∧ (∀ z, F2 z → F z ∧ ¬ F3 z ∧ z < w.heap.size) ∧ (∀ z, F3 z → F z ∧ z < w.heap.size) := by
  obtain ⟨hl, G, h1, h2, h3⟩ := h
  rw [t.ds_len] at h2 h3
  rw [t.ds_eq] at h1
  refine ⟨_, _, _, DO.os _ (Nat.le_refl _) (h1 5 _ _ rfl rfl).inHeap, DO.os _ (Nat.le_refl _) (h1 7 _ _ rfl rfl).inHeap, (h1 8 _ _ rfl rfl).inHeap, fun z hz => ⟨h2 5 z (by omega) hz.1, fun e => h3 5 7 z (by omega) (by omega) (by omega) hz.1 e.1, fun e => h3 5 8 z (by omega) (by omega) (by omega) hz.1 e.1, hz.2⟩,
    fun z hz => ⟨h2 7 z (by omega) hz.1, fun e => h3 7 8 z (by omega) (by omega) (by omega) hz.1 e.1, hz.2⟩, fun z hz => ⟨h2 8 z (by omega) hz.1, hz.2⟩⟩
theorem Bx9.but {F : Nat → Prop} {w w' : World} {b : Nat} {t : Tm} {tp rp p : Option Addr} {tc rc c : Nat} (h : Bx9 w b t tp tc rp rc p c) (hb : But F w w') (hn : ¬ F b) : Bx9 w' b t tp tc rp rc p c := h.at (hb.kept b h.lt hn)
set_option maxRecDepth 100000 in
set_option maxHeartbeats 4000000 in
theorem markTm_any {F : Nat → Prop} {t : Tm} {v : Value} {w : World} (h : OMv w t v F) (k : Nat) (hk : 1 ≤ k) (hn : k + t.cntT ≤ 1099511627776) :
    Calls Tryd.prog 25 #[v, .int .i64 k] w (fun e w' => e = .returned (.int .i64 ((k + t.cntT : Nat) : Int)) ∧ OMv w' (t.markT k) v F ∧ But F w w') := by
  obtain ⟨tp, tc, rp, rc, p, c, rfl, h⟩ := h
  obtain ⟨F1, F2, F3, o1, o2, o3, a1, a2, a3⟩ := h.parts9
  unfold Tm.cntT at hn
  have hb0 := al_below w (.cells (tmC t tp tc rp rc p c) 35)
  have HX0 := Lib.hid (Bx9.new w t tp tc rp rc p c 35)
  have HA1 := Lib.hid a1
  have HA2 := Lib.hid a2
  have HA3 := Lib.hid a3
  have hC5 := markT_any (t := t.ty) ⟨_, rfl, o1.keep hb0⟩ k (by omega)
  have HC5 := Lib.hid hC5
  have HO2 := Lib.hid (o2.keep hb0)
  have HO3 := Lib.hid (o3.keep hb0)
  have HB0 := Lib.hid hb0
  clear h o1 o2 o3 a1 a2 a3 hb0 hC5
  go_enter Tryd.func25, Tryd.ntmps25
  go_wp2_with fail
  refine HC5.out.mono ?_
  rintro e w1 ⟨rfl, ho1, wA, hbA, hbt⟩
  have hB1 := (But.of_below (F := F1) hbA).trans hbt
  obtain ⟨s1, hs1, ho1⟩ := ho1
  have hx1 := HX0.out.but hB1 (fun e => by have := (HA1.out _ e).2.2.2; omega)
  have ho2 := HO2.out.stays (hB1.stays (fun x h1 h2 => (HA1.out x h1).2.1 h2))
  have ho3 := HO3.out.stays (hB1.stays (fun x h1 h2 => (HA1.out x h1).2.2.1 h2))
  have HB1 := Lib.hid ((But.of_below (F := F) HB0.out).trans (hB1.mono (fun z hz => (HA1.out z hz).1)))
  have HO1 := Lib.hid ho1
  have HO3b := Lib.hid ho3
  have HX1 := Lib.hid hx1
  have HS1 := Lib.hid hs1
  have HC7 := Lib.hid (markT_any (t := t.res) ⟨_, rfl, ho2⟩ (k + nodesS t.ty.args) (by omega))
  obtain ⟨g0, g1, g2, g3, g4, g5, g6, g7, g8⟩ := hx1
  clear hbA hbt hB1 ho1 ho2 ho3 hs1 HO2 HO3 HX0
  go_wp2_with fail
  refine HC7.out.mono ?_
  rintro e w2 ⟨rfl, ho2, wA, hbA, hbt⟩
  have hB2 := (But.of_below (F := F2) hbA).trans hbt
  obtain ⟨s2, hs2, ho2⟩ := ho2
  have hx2 := HX1.out.but hB2 (fun e => by have := (HA2.out _ e).2.2; omega)
  have ho1 := HO1.out.stays (hB2.stays (fun x h1 h2 => (HA1.out x h2).2.1 h1))
  have ho3 := HO3b.out.stays (hB2.stays (fun x h1 h2 => (HA2.out x h1).2.1 h2))
  have HB2 := Lib.hid (HB1.out.trans (hB2.mono (fun z hz => (HA2.out z hz).1)))
  have HO1b := Lib.hid ho1
  have HO2 := Lib.hid ho2
  have HS2 := Lib.hid hs2
  have HC8 := Lib.hid (markMS_any _ (Nat.le_refl _) ho3 w2 (k + nodesS t.ty.args + nodesS t.res.args) ⟨Nat.le_refl _, fun _ _ _ => rfl⟩ (by omega) (by omega))
  clear g0 g1 g2 g3 g4 g5 g6 g7 g8
  obtain ⟨g0, g1, g2, g3, g4, g5, g6, g7, g8⟩ := hx2
  clear hbA hbt hB2 ho1 ho2 ho3 hs2 HO1 HO3b HX1
  go_wp2_with fail
  refine HC8.out.mono ?_
  rintro e w3 ⟨rfl, ho3, hb3⟩
  have HB3 := Lib.hid (HB2.out.trans (hb3.mono (fun z hz => (HA3.out z hz).1)))
  have HO3 := Lib.hid ho3
  have HO1c := Lib.hid (HO1b.out.stays (hb3.stays (fun x h1 h2 => (HA1.out x h2).2.2.1 h1)))
  have HO2c := Lib.hid (HO2.out.stays (hb3.stays (fun x h1 h2 => (HA2.out x h2).2.1 h1)))
  clear g0 g1 g2 g3 g4 g5 g6 g7 g8 ho3 hb3
  go_wp2_with fail
  go_ret
  have e1 : s1 = .slice tp t.ty.args.length tc := by have := HS1.out; simp at this; exact this.symm
  have e2 : s2 = .slice rp t.res.args.length rc := by have := HS2.out; simp at this; exact this.symm
  have q1 := HO1c.out
  have q2 := HO2c.out
  have q3 := HO3.out
  rw [e1] at q1
  rw [e2] at q2
  have l1 : (t.markT k).ty.args.length = t.ty.args.length := by simp [Tm.markT, cTy, markS_length]
  have l2 : (t.markT k).res.args.length = t.res.args.length := by simp [Tm.markT, cRes, markS_length]
  have l3 : (t.markT k).args.length = t.args.length := by simp [Tm.markT, cArgs, markM_length]
  have e0 : (k : Int) + (nodesS t.ty.args : Int) + (nodesS t.res.args : Int) + (cntM t.args : Int) = ((k + t.cntT : Nat) : Int) := by unfold Tm.cntT; omega
  refine ⟨congrArg (fun z => Ending.returned (Value.int IntKind.i64 z)) e0, ⟨tp, tc, rp, rc, p, c, ?_, ?_⟩, HB3.out⟩
  · unfold tmV
    rw [l1, l2, l3]
    rfl
  · refine OSt9 (F1 := F1) (F2 := F2) (F3 := F3) ?_ ?_ ?_ (fun z hz => ⟨(HA1.out z hz).1, (HA1.out z hz).2.1, (HA1.out z hz).2.2.1⟩) (fun z hz => ⟨(HA2.out z hz).1, (HA2.out z hz).2.1⟩) (fun z hz => (HA3.out z hz).1)
    · rw [l1]; exact q1
    · rw [l2]; exact q2
    · rw [l3]; exact q3
set_option maxRecDepth 100000 in
set_option maxHeartbeats 4000000 in
theorem heldTm_any {C : Nat → Prop} {t : Tm} {v : Value} {w : World} {k : Nat} (h : TM w C (t.markT k) v) (hk : 1 ≤ k) (hn : k + t.cntT ≤ 1099511627776) :
    Calls Tryd.prog 26 #[v, .int .i64 k] w (IntRet (fun r => r = ((k + t.cntT : Nat) : Int)) w) := by
  obtain ⟨tp, tc, rp, rc, p, c, rfl, h⟩ := h
  unfold Tm.cntT at hn
  have m1 : (t.markT k).ty.args = markS k t.ty.args := rfl
  have m2 : (t.markT k).res.args = markS (k + nodesS t.ty.args) t.res.args := rfl
  have m3 : (t.markT k).args = markM (k + nodesS t.ty.args + nodesS t.res.args) t.args := rfl
  obtain ⟨u, hu⟩ : ∃ u, t.markT k = u := ⟨_, rfl⟩
  rw [hu] at h m1 m2 m3 ⊢
  have HM1 := Lib.hid m1
  have HM2 := Lib.hid m2
  have HM3 := Lib.hid m3
  have hb0 := al_below w (.cells (tmC u tp tc rp rc p c) 35)
  have HX0 := Lib.hid (Bx9.new w u tp tc rp rc p c 35)
  have HB0 := Lib.hid hb0
  have HH := Lib.hid (fun w' (hb : Below w.heap.size w w') => h.stays (.of_below hb))
  have HC5 := Lib.hid (heldT_any (t := u.ty) (k := k) (ts := t.ty.args) ⟨_, rfl, (h.stays (.of_below hb0)).ty⟩ m1 (by omega))
  have HCN := Lib.hid (show t.cntT = nodesS t.ty.args + nodesS t.res.args + cntM t.args from rfl)
  clear h m1 m2 m3 hu hb0
  go_enter Tryd.func26, Tryd.ntmps26
  go_wp2_with fail
  refine HC5.out.mono ?_
  rintro e w1 ⟨r, rfl, rfl, hb1⟩
  have HB1 := Lib.hid (HB0.out.trans (hb1.mono HB0.out.size))
  have HX1 := Lib.hid (HX0.out.keep hb1)
  obtain ⟨g0, g1, g2, g3, g4, g5, g6, g7, g8⟩ := HX0.out.keep hb1
  have hn1 : ¬ (((k + nodesS t.ty.args : Nat) : Int) < 0) := by omega
  have HC7 := Lib.hid (heldT_any (t := u.res) (k := k + nodesS t.ty.args) (ts := t.res.args) ⟨_, rfl, (HH.out _ HB1.out).res⟩ HM2.out (by omega))
  clear hb1 HX0
  go_wp2_with fail
  refine HC7.out.mono ?_
  rintro e w2 ⟨r, rfl, rfl, hb2⟩
  have HB2 := Lib.hid (HB1.out.trans (hb2.mono HB1.out.size))
  clear g0 g1 g2 g3 g4 g5 g6 g7 g8 hn1
  obtain ⟨g0, g1, g2, g3, g4, g5, g6, g7, g8⟩ := HX1.out.keep hb2
  have hn1 : ¬ (((k + nodesS t.ty.args + nodesS t.res.args : Nat) : Int) < 0) := by omega
  have HC8 := Lib.hid (heldMS_any (HH.out _ HB2.out).args w2 (k + nodesS t.ty.args + nodesS t.res.args) t.args HM3.out ⟨Nat.le_refl _, fun _ _ _ => rfl⟩ (by omega) (by omega))
  clear hb2 HX1
  go_wp2_with fail
  refine HC8.out.mono ?_
  rintro e w3 ⟨r, rfl, rfl, hb3⟩
  have HB3 := Lib.hid (HB2.out.trans (hb3.mono HB2.out.size))
  clear g0 g1 g2 g3 g4 g5 g6 g7 g8 hn1 hb3
  have hn1 : ¬ (((k + nodesS t.ty.args + nodesS t.res.args + cntM t.args : Nat) : Int) < 0) := by omega
  go_wp2_with fail
  go_ret
  exact ⟨_, by rw [HCN.out]; omega, rfl, HB3.out⟩
end Go.Proofs.YtfeijijeohfpgaaDoor
namespace Go.Proofs.YtfeijijeohfpgaaDoor
open Go Go.RowKit
def Holds (Cb : Nat → Prop) (w w' : World) : Prop := w.heap.size ≤ w'.heap.size ∧ ∀ b, b < w.heap.size → ¬ Cb b → w'.heap[b]? = w.heap[b]?
theorem Holds.refl (Cb : Nat → Prop) (w : World) : Holds Cb w w := ⟨Nat.le_refl _, fun _ _ _ => rfl⟩
theorem Holds.trans {Cb : Nat → Prop} {a b c : World} (h : Holds Cb a b) (k : Holds Cb b c) : Holds Cb a c :=
  ⟨Nat.le_trans h.1 k.1, fun i hi hc => (k.2 i (Nat.lt_of_lt_of_le hi h.1) hc).trans (h.2 i hi hc)⟩
theorem Holds.of_below {Cb : Nat → Prop} {w w' : World} (h : Below w.heap.size w w') : Holds Cb w w' := ⟨h.size, fun b hb _ => h.block b hb⟩
theorem Holds.setCell {Cb : Nat → Prop} {w w' : World} (h : Holds Cb w w') (p : Addr) (hp : Cb p.block) (v : Value) : Holds Cb w (w'.setCell p v) :=
  h.trans ⟨((Below.refl p.block w').setCell (Nat.le_refl _) v).size, fun b _ hc => Below.heap_setCell _ _ _ _ (fun e => hc (by rw [e]; exact hp))⟩
def SeqT {α β : Type} (F : Fence) (n : Nat) (P : Program) (g : Nat) (lb : Array Value) (encs : α → Array Value) (key : α → β) (Good : α → World → Prop) (Cb : Nat → Prop) (all : List β) (w : World) : Prop :=
  ∀ (l : Nat) (J Jx : List β → World → Prop) (W : World), Below w.heap.size w W → (∀ pre A B, J pre A → Below W.heap.size A B → J pre B) →
    (∀ pre x W1, J pre W1 → pre ++ [key x] <+: all → Good x W1 → YieldAt F (n - 1) P l (encs x) W1 fun e W' =>
      (e = .returned (.bool true) ∧ J (pre ++ [key x]) W' ∧ Holds Cb W1 W') ∨ (e = .returned (.bool false) ∧ Jx (pre ++ [key x]) W')) →
    J [] W →
    CallsIn F n P g (#[.func (.yield l) #[] #[]] ++ lb) W fun e W' => (∃ v, e = .returned v) ∧ (J all W' ∨ ∃ pre, pre <+: all ∧ Jx pre W')
def postT {β : Type} (Cb : Nat → Prop) (I : List β → World → Prop) (Ix : Code → List β → World → Prop) (xs : List β) (W : World) : Exit → Act → World → Prop
  | .normal, _, W' => Holds Cb W W' ∧ I xs W'
  | .ret, _, W' => Holds Cb W W' ∧ Ix .ret xs W'
  | .exit id, _, W' => Holds Cb W W' ∧ Ix (.exit id) xs W'
  | .goto t, _, W' => Holds Cb W W' ∧ Ix (.goto t) xs W'
  | .panic _, _, _ => False
  | .outgrown, _, _ => False

theorem below_putObj (n : Nat) (W : World) (l : Nat) (o : Obj) (h : n ≤ l) : Below n W (W.putObj l o) :=
  ⟨rfl, rfl, rfl, by simp, fun k hk => World.putObj_heap_other (by omega)⟩

variable {F : Fence} {n : Nat} {P : Program}
theorem range_law {α β : Type} {g : Operand} {ps : Array Tmp} {assign body : Code} {Q : Exit → Act → World → Prop} {a : Act} {w : World}
    (hro : F.round = none) (h1 : 1 ≤ n) {gf : Nat} {lb : Array Value} (hg : a.eval g = .func (.func gf) #[] lb) (hFg : F.fn gf) (eg : ∀ args w, (callFunc gf args).run P w = .ok (.enter gf args) w)
    {encs : α → Array Value} {key : α → β} {Good : α → World → Prop} {Cb : Nat → Prop} {all : List β} (hseq : SeqT F (n - 1) P gf lb encs key Good Cb all w) (hps : ∀ x, (encs x).size = ps.size) (hCb : ∀ b, Cb b → b < w.heap.size)
    (I : List β → World → Prop) (Ix : Code → List β → World → Prop) (hI : ∀ pre A B, I pre A → Below w.heap.size A B → I pre B) (hIx : ∀ c pre A B, Ix c pre A → Below w.heap.size A B → Ix c pre B)
    (hG : ∀ x A B, Good x A → Below w.heap.size A B → Good x B) (h0 : I [] w)
    (Ax : α → Act → World → Prop) (hAx : ∀ x a' W l r o, Ax x a' W → W.heap[l]? = some (.loop r) → Ax x a' (W.putObj l o))
    (hassign : ∀ (l : Nat) (x : α) (W : World) (K : Act → World → Prop), Good x W → (∀ a' W', Below W.heap.size W W' → Ax x a' W' → K a' W') →
      assign.wpIn (F.inRound l) (n - 1 - 1) P (Exit.then K (fun _ _ _ => False)) { tmps := (ps.zip (encs x)).foldl (fun t (p, v) => t.setIfInBounds p v) a.tmps, defers := [] } W)
    (hbody : ∀ (l : Nat) (pre : List β) (x : α) (a' : Act) (W : World), I pre W → pre ++ [key x] <+: all → Good x W → Ax x a' W → body.wpIn (F.inRound l) (n - 1 - 1) P (postT Cb I Ix (pre ++ [key x]) W) a' W)
    (hdone : ∀ (D : Nat) (W : World), w.heap.size ≤ D → I all W → W.heap[D]? = some (.deferred (some [])) → Q .normal { a with defers := { target := .collected D, args := #[] } :: a.defers } W)
    (hstop : ∀ (D : Nat) (c : Code) (pre : List β) (W : World), w.heap.size ≤ D → pre <+: all → Ix c pre W → W.heap[D]? = some (.deferred (some [])) → c.wpIn F n P Q { a with defers := { target := .collected D, args := #[] } :: a.defers } W) :
    (Code.rangeFunc g ps assign body).wpIn F n P Q a w := by
  refine wpIn_rangeFunc (fun fn hfn => ?_)
  rw [hro]
  -- the record of the loop, in its three states
  let rec_ : LoopState → Option Code → Loop := fun st pe => { state := st, pending := pe, fn, tmps := a.tmps, params := ps, assign, body, defers := w.heap.size }
  let w1 := (w.alloc (.deferred (some []))).alloc (.loop (rec_ .ready none))
  have hs1 : w1.heap.size = w.heap.size + 2 := by simp [w1]
  have hb1 : Below w.heap.size w w1 := ((Below.refl _ w).alloc (Nat.le_refl _) _).alloc (by simp) _
  have hl1 : w1.heap[w.heap.size + 1]? = some (.loop (rec_ .ready none)) := by
    have := World.alloc_heap_new (w.alloc (.deferred (some []))) (.loop (rec_ .ready none))
    rwa [World.size_alloc] at this
  have hd1 : w1.heap[w.heap.size]? = some (.deferred (some [])) := (Below.heap_alloc _ _ _ (by simp)).trans (World.alloc_heap_new w _)
  refine ⟨w.heap.size + 1, [{ target := .collected w.heap.size, args := #[] }], w1, { target := .fn (.func gf) lb, args := #[.func (.yield (w.heap.size + 1)) #[] #[]] }, w1, gf,
    #[.func (.yield (w.heap.size + 1)) #[] #[]] ++ lb, w1, run_enterLoop_outer _ _ _ _ _, by simp only [resolve, hg]; simp [go_sem], fun f' hf' => by simp [Target.leads] at hf'; subst hf'; exact hFg, by simp [invoke, go_sem, eg], fun _ => h1, ?_⟩
  have still : ∀ {A B : World} {k : Nat} {o : Obj}, Below w1.heap.size A B → k < w1.heap.size → A.heap[k]? = some o → B.heap[k]? = some o := fun hb hk h => (hb.block _ hk).trans h
  refine (hseq (w.heap.size + 1)
    (fun pre W => I pre W ∧ W.heap[w.heap.size + 1]? = some (.loop (rec_ .ready none)) ∧ W.heap[w.heap.size]? = some (.deferred (some [])))
    (fun pre W => ∃ c, Ix c pre W ∧ W.heap[w.heap.size + 1]? = some (.loop (rec_ .done (some c))) ∧ W.heap[w.heap.size]? = some (.deferred (some [])))
    w1 hb1 (fun pre A B h hb => ⟨hI pre A B h.1 (hb.mono (by omega)), still hb (by omega) h.2.1, still hb (by omega) h.2.2⟩) ?_ ⟨hI _ _ _ h0 hb1, hl1, hd1⟩).mono ?_
  · -- one round
    rintro pre x W ⟨hi, hl, hd⟩ hpre hgood
    have hy := run_yield (P := P) (args := encs x) hl (hps x)
    refine ⟨fn, _, assign, body, hy, roundIn_of_wpIn hfn (hassign _ x W _ hgood (fun a' Wa hba hax => ?_))⟩
    have hlt : w.heap.size + 1 < W.heap.size := (Array.getElem?_eq_some_iff.1 hl).1
    have hla : Wa.heap[w.heap.size + 1]? = some (.loop (rec_ .ready none)) := (hba.block _ hlt).trans hl
    have hda : Wa.heap[w.heap.size]? = some (.deferred (some [])) := (hba.block _ (by omega)).trans hd
    refine ⟨_, run_beginRound hla rfl, ?_⟩
    have hlta : w.heap.size + 1 < Wa.heap.size := (Array.getElem?_eq_some_iff.1 hla).1
    let busy : Loop := { rec_ .ready none with state := .busy }
    let Wb := Wa.putObj (w.heap.size + 1) (.loop busy)
    have hbb : Below w.heap.size Wa Wb := below_putObj _ _ _ _ (by omega)
    have hlb : Wb.heap[w.heap.size + 1]? = some (.loop busy) := World.putObj_heap_same hlta
    have hdb : Wb.heap[w.heap.size]? = some (.deferred (some [])) := (World.putObj_heap_other (by omega)).trans hda
    have hbwb := (hba.mono (Nat.le_of_lt (by omega : w.heap.size < W.heap.size))).trans hbb
    refine wpIn_mono (hbody _ pre x a' Wb (hI _ _ _ hi hbwb) hpre (hG _ _ _ hgood hbwb) (hAx _ _ _ _ _ _ hax hla)) ?_
    have fin : ∀ (jump : Option Code) (W3 : World), Holds Cb Wb W3 →
        (Instr.endRound (w.heap.size + 1) jump).run P W3 = .ok (.bool jump.isNone) (W3.putObj (w.heap.size + 1) (.loop (rec_ (if jump.isNone then .ready else .done) jump))) ∧
        Below w.heap.size W3 (W3.putObj (w.heap.size + 1) (.loop (rec_ (if jump.isNone then .ready else .done) jump))) ∧
        (W3.putObj (w.heap.size + 1) (.loop (rec_ (if jump.isNone then .ready else .done) jump))).heap[w.heap.size + 1]? = some (.loop (rec_ (if jump.isNone then .ready else .done) jump)) ∧
        (W3.putObj (w.heap.size + 1) (.loop (rec_ (if jump.isNone then .ready else .done) jump))).heap[w.heap.size]? = some (.deferred (some [])) := fun jump W3 hk => by
      have hwb : Wb.heap.size = Wa.heap.size := by simp [Wb]
      have h3 : W3.heap[w.heap.size + 1]? = some (.loop busy) := (hk.2 _ (by omega) (fun hc => by have := hCb _ hc; omega)).trans hlb
      have hd3 : W3.heap[w.heap.size]? = some (.deferred (some [])) := (hk.2 _ (by omega) (fun hc => by have := hCb _ hc; omega)).trans hdb
      exact ⟨run_endRound (P := P) jump h3, below_putObj _ _ _ _ (by omega), World.putObj_heap_same (Array.getElem?_eq_some_iff.1 h3).1, (World.putObj_heap_other (by omega)).trans hd3⟩
    have whole : ∀ W3, Holds Cb Wb W3 → Holds Cb W (W3.putObj (w.heap.size + 1) (.loop (rec_ .ready none))) := fun W3 hk => by
      have hwb : Wb.heap.size = Wa.heap.size := by simp [Wb]
      have hsz := hba.size
      refine ⟨by have := hk.1; simp; omega, fun b hb hc => ?_⟩
      by_cases e : b = w.heap.size + 1
      · subst e
        rw [World.putObj_heap_same (by have := hk.1; omega)]; exact hl.symm
      · rw [World.putObj_heap_other e, hk.2 b (by omega) hc, World.putObj_heap_other e, hba.block b hb]
    rintro e a3 W3 hp
    cases e with
    | normal =>
      obtain ⟨hk, hi3⟩ := hp
      obtain ⟨hr, hb3, hl3, hd3⟩ := fin none W3 hk
      exact ⟨_, _, hr, .inl ⟨rfl, ⟨hI _ _ _ hi3 hb3, hl3, hd3⟩, whole W3 hk⟩⟩
    | ret =>
      obtain ⟨hk, hi3⟩ := hp
      obtain ⟨hr, hb3, hl3, hd3⟩ := fin (some .ret) W3 hk
      exact ⟨_, _, hr, .inr ⟨rfl, .ret, hIx _ _ _ _ hi3 hb3, hl3, hd3⟩⟩
    | exit id =>
      obtain ⟨hk, hi3⟩ := hp
      obtain ⟨hr, hb3, hl3, hd3⟩ := fin (some (.exit id)) W3 hk
      exact ⟨_, _, hr, .inr ⟨rfl, .exit id, hIx _ _ _ _ hi3 hb3, hl3, hd3⟩⟩
    | goto t =>
      obtain ⟨hk, hi3⟩ := hp
      obtain ⟨hr, hb3, hl3, hd3⟩ := fin (some (.goto t)) W3 hk
      exact ⟨_, _, hr, .inr ⟨rfl, .goto t, hIx _ _ _ _ hi3 hb3, hl3, hd3⟩⟩
    | panic ch => exact hp.elim
    | outgrown => exact hp.elim
  · -- the iterator has returned
    rintro e W2 ⟨⟨v, rfl⟩, (⟨hi, hl, hd⟩ | ⟨pre, hpre, c, hi, hl, hd⟩)⟩
    · exact ⟨none, _, run_endLoop (P := P) hl (by simp [rec_]), hdone _ _ (Nat.le_refl _) (hI _ _ _ hi (below_putObj _ _ _ _ (by omega))) ((World.putObj_heap_other (by omega)).trans hd)⟩
    · exact ⟨some c, _, run_endLoop (P := P) hl (by simp [rec_]), hstop _ c pre _ (Nat.le_refl _) hpre (hIx _ _ _ _ hi (below_putObj _ _ _ _ (by omega))) ((World.putObj_heap_other (by omega)).trans hd)⟩
end Go.Proofs.YtfeijijeohfpgaaDoor
namespace Go.Proofs.YtfeijijeohfpgaaDoor
open Go Go.RowKit

end Go.Proofs.YtfeijijeohfpgaaDoor
namespace Go.Proofs.YtfeijijeohfpgaaDoor
open Go Go.RowKit


set_option maxRecDepth 100000 in
theorem max_any (a b : Int) (w : World) : Calls Tryd.prog 64 #[.int .i64 a, .int .i64 b] w fun e w' => e = .returned (.int .i64 (max a b)) ∧ w' = w := by
  go_enter Tryd.func64, Tryd.ntmps64
  by_cases h : b < a
  · go_wp2
    go_ret
    exact ⟨congrArg (fun z => Ending.returned (.int .i64 z)) (Int.max_eq_left (by omega)).symm, rfl⟩
  · go_wp2
    go_ret
    exact ⟨congrArg (fun z => Ending.returned (.int .i64 z)) (Int.max_eq_right (by omega)).symm, rfl⟩

theorem form_false {q : Int} {ts : List Ty} {k : Nat} (h : k < ts.length) (hf : ts[k].form = false) : (Ty.mk q ts).form = false := by
  have e : formS ts = false := by
    rw [← List.take_append_drop (k + 1) ts, formS_append, take_next h, formS_append]
    simp [formS, hf]
  simp [Ty.form, e]
theorem form_kind {q : Int} {ts : List Ty} {b : Bool} (h : formS ts = true) (hb : b = (if q = 1 ∨ q = 2 then ts.length == 0 else if q = 3 then ts.length == 2 else q == 4 && ts.length == 1)) : b = (Ty.mk q ts).form := by
  rw [Ty.form, h, hb, Bool.true_and]
theorem beq_0 (n : Nat) : ((n : Int) == 0) = (n == 0) := by rw [Bool.eq_iff_iff]; simp only [beq_iff_eq]; omega
theorem beq_1 (n : Nat) : ((n : Int) == 1) = (n == 1) := by rw [Bool.eq_iff_iff]; simp only [beq_iff_eq]; omega
theorem beq_2 (n : Nat) : ((n : Int) == 2) = (n == 2) := by rw [Bool.eq_iff_iff]; simp only [beq_iff_eq]; omega
def LeftEnds (left : Int) (n : Nat) (r : Int) : Prop := (0 ≤ r ∧ r + n = left) ∨ (r < 0 ∧ -1 ≤ r ∧ left < n) ∨ (r = -1 ∧ left = -1)
theorem LeftEnds.range {left : Int} {n : Nat} {r : Int} (h : LeftEnds left n r) (hl : -1 ≤ left) : -1 ≤ r ∧ r ≤ left := by
  unfold LeftEnds at h
  omega
theorem leftEnds_start {left : Int} (h : 0 ≤ left) : LeftEnds (left - 1) (nodesS ([] : List Ty)) (left - 1) := by
  unfold LeftEnds; simp only [nodesS]; omega
theorem LeftEnds.stop {left L : Int} {ts : List Ty} {k : Nat} (h : LeftEnds (left - 1) (nodesS (ts.take k)) L) (hn : L < 0) (_ : nodesS (ts.take (k + 1)) ≤ nodesS ts) : LeftEnds left (1 + nodesS ts) L := by
  have := nodesS_take_le ts k
  unfold LeftEnds at *; omega
theorem LeftEnds.next {left L r : Int} {n m : Nat} (h : LeftEnds (left - 1) n L) (hr : LeftEnds L m r) (h0 : 0 ≤ L) : LeftEnds (left - 1) (n + m) r := by
  unfold LeftEnds at *; omega
theorem LeftEnds.full {left L : Int} {n : Nat} (h : LeftEnds (left - 1) n L) : LeftEnds left (1 + n) L := by
  unfold LeftEnds at *; omega

set_option maxRecDepth 100000 in
set_option maxHeartbeats 1000000 in
theorem depth_any {w0 : World} {C : Nat → Prop} {ts : List Ty} {v : Value} (h : TS w0 C ts v) : ∀ (w : World) (q : Int), Stays C w0 w → nodesS ts ≤ 2097152 → Calls Tryd.prog 103 #[.agg #[.int .i64 q, v]] w (IntRet (fun r => r = ((1 + depthS ts : Nat) : Int)) w) := by
  refine TS.ind (motive := fun ts v => ∀ (w : World) (q : Int), Stays C w0 w → nodesS ts ≤ 2097152 → Calls Tryd.prog 103 #[.agg #[.int .i64 q, v]] w (IntRet (fun r => r = ((1 + depthS ts : Nat) : Int)) w)) ?_ h
  intro ts p c hl H w q hst hn
  have HH := Lib.hid H
  have HST := Lib.hid hst
  have hlen := nodesS_ge ts
  clear H hst
  go_enter Tryd.func103, Tryd.ntmps103
  go_wp2_with fail
  go_loopw [3, 4] (fun n i wr => ∃ (k : Nat), k ≤ ts.length ∧ i = .int .i64 k ∧ n = .int .i64 ((depthS (ts.take k) : Nat) : Int) ∧ Below (w.alloc (.cells #[.int .i64 q, .slice p ts.length c] 32)).heap.size (w.alloc (.cells #[.int .i64 q, .slice p ts.length c] 32)) wr) (fun _ i _ => ts.length - (intOf i).toNat)
  case atStart => exact ⟨0, Nat.zero_le _, rfl, by simp [depthS], Below.refl _ _⟩
  case round =>
    obtain ⟨k, hk, rfl, rfl, hbr⟩ := hrel
    have HB := Lib.hid hbr
    obtain ⟨d0, d1⟩ := box2 hbr
    clear hbr
    by_cases hlk : k < ts.length
    · obtain ⟨b, o, p', c', rfl, hcs, hT, hI⟩ := HH.out k _ (List.getElem?_eq_getElem hlk)
      have hsr := HST.out.trans (Stays.of_below (C := C) (below_box HB.out))
      obtain ⟨c1, c2⟩ := hcs wr hsr
      have n1 := nodesS_take_next ts k hlk
      have n2 := nodesS_take_le ts (k + 1)
      have n3 := ts[k].nodes_eq
      have m1 := depthS_at ts k hlk
      have m2 := depthS_take_next ts k hlk
      have m3 := depth_at ts[k]
      have b1 : depthS (ts.take k) ≤ 2097152 := by omega
      have b2 : 1 + depthS ts[k].args ≤ 2097152 := by omega
      have HM2 := Lib.hid m2
      have HM3 := Lib.hid m3
      clear m1 m2 m3
      have HC := Lib.hid (hI wr ts[k].kind hsr (by omega))
      have HN1 := Lib.hid n1
      have HN2 := Lib.hid n2
      have HN3 := Lib.hid n3
      clear hcs hT hI hsr n1 n2 n3
      go_wp2_with fail
      refine HC.out.mono ?_
      rintro e w1 ⟨r, hr, rfl, hb1⟩
      have HB1 := Lib.hid (HB.out.trans (hb1.mono HB.out.size))
      clear hb1
      subst hr
      go_wp2_with fail
      refine (max_any _ _ _).mono ?_
      rintro e w2 ⟨rfl, rfl⟩
      go_wp2_with fail
      go_roundw
      case rel => exact ⟨k + 1, by omega, by go_num, by have h1 := HM2.out; have h2 := HM3.out; rw [h1, h2]; go_num, HB1.out⟩
      case measure => simp [intOf]; omega
    · obtain rfl : k = ts.length := by omega
      rw [List.take_length]
      have b3 := depthS_nodes ts
      go_wp2_with fail
      go_ret
      exact ⟨_, rfl, by go_num, below_box HB.out⟩

set_option maxRecDepth 100000 in
set_option maxHeartbeats 1000000 in
theorem form_any {w0 : World} {C : Nat → Prop} {ts : List Ty} {v : Value} (h : TS w0 C ts v) : ∀ (w : World) (q : Int), Stays C w0 w → nodesS ts ≤ 2097152 → Calls Tryd.prog 104 #[.agg #[.int .i64 q, v]] w (BoolRet (fun r => r = (Ty.mk q ts).form) w) := by
  refine TS.ind (motive := fun ts v => ∀ (w : World) (q : Int), Stays C w0 w → nodesS ts ≤ 2097152 → Calls Tryd.prog 104 #[.agg #[.int .i64 q, v]] w (BoolRet (fun r => r = (Ty.mk q ts).form) w)) ?_ h
  intro ts p c hl H w q hst hn
  have HH := Lib.hid H
  have HST := Lib.hid hst
  have hlen := nodesS_ge ts
  clear H hst
  go_enter Tryd.func104, Tryd.ntmps104
  go_wp2_with fail
  go_loopw [3] (fun i wr => ∃ (k : Nat), k ≤ ts.length ∧ i = .int .i64 k ∧ formS (ts.take k) = true ∧ Below (w.alloc (.cells #[.int .i64 q, .slice p ts.length c] 32)).heap.size (w.alloc (.cells #[.int .i64 q, .slice p ts.length c] 32)) wr) (fun i _ => ts.length - (intOf i).toNat)
  case atStart => exact ⟨0, Nat.zero_le _, rfl, by simp [formS], Below.refl _ _⟩
  case round =>
    obtain ⟨k, hk, rfl, hfm, hbr⟩ := hrel
    have HB := Lib.hid hbr
    obtain ⟨d0, d1⟩ := box2 hbr
    clear hbr
    by_cases hlk : k < ts.length
    · obtain ⟨b, o, p', c', rfl, hcs, hT, hI⟩ := HH.out k _ (List.getElem?_eq_getElem hlk)
      have hsr := HST.out.trans (Stays.of_below (C := C) (below_box HB.out))
      obtain ⟨c1, c2⟩ := hcs wr hsr
      have n1 := nodesS_take_next ts k hlk
      have n2 := nodesS_take_le ts (k + 1)
      have n3 := ts[k].nodes_eq
      have HM := Lib.hid hfm
      clear hfm
      have HC := Lib.hid (hI wr ts[k].kind hsr (by omega))
      have HN1 := Lib.hid n1
      have HN2 := Lib.hid n2
      have HN3 := Lib.hid n3
      clear hcs hT hI hsr n1 n2 n3
      go_wp2_with fail
      refine HC.out.mono ?_
      rintro e w1 ⟨r, hr, rfl, hb1⟩
      have HB1 := Lib.hid (HB.out.trans (hb1.mono HB.out.size))
      clear hb1
      have HR := Lib.hid hr
      clear hr
      cases r with
      | true =>
        go_wp2_with fail
        go_roundw
        case rel => exact ⟨k + 1, by omega, by go_num, by rw [take_next hlk, formS_append, HM.out]; simpa [formS, ← Ty.eta] using HR.out.symm, HB1.out⟩
        case measure => simp [intOf]; omega
      | false =>
        go_wp2_with fail
        go_ret
        exact ⟨false, (form_false hlk (by rw [Ty.eta ts[k]]; exact HR.out.symm)).symm, rfl, below_box HB1.out⟩
    · obtain rfl : k = ts.length := by omega
      rw [List.take_length] at hfm
      have HM := Lib.hid hfm
      clear hfm
      by_cases q1 : q = 1
      · subst q1
        go_wp2_with fail
        go_ret
        exact ⟨_, form_kind HM.out (by simp [beq_0]), rfl, below_box HB.out⟩
      by_cases q2 : q = 2
      · subst q2
        go_wp2_with fail
        go_ret
        exact ⟨_, form_kind HM.out (by simp [beq_0]), rfl, below_box HB.out⟩
      by_cases q3 : q = 3
      · subst q3
        go_wp2_with fail
        go_ret
        exact ⟨_, form_kind HM.out (by simp [beq_2]), rfl, below_box HB.out⟩
      by_cases q4 : q = 4
      · subst q4
        go_wp2_with fail
        go_ret
        exact ⟨_, form_kind HM.out (by simp [beq_1]), rfl, below_box HB.out⟩
      go_wp2_with fail
      go_ret
      exact ⟨_, form_kind HM.out (by simp [q1, q2, q3, q4]), rfl, below_box HB.out⟩

set_option maxRecDepth 100000 in
set_option maxHeartbeats 1000000 in
theorem left_any {w0 : World} {C : Nat → Prop} {ts : List Ty} {v : Value} (h : TS w0 C ts v) : ∀ (w : World) (q : Int) (left : Int), Stays C w0 w → nodesS ts ≤ 2097152 → 0 ≤ left → left ≤ 2097152 → Calls Tryd.prog 102 #[.agg #[.int .i64 q, v], .int .i64 left] w (IntRet (LeftEnds left (1 + nodesS ts)) w) := by
  refine TS.ind (motive := fun ts v => ∀ (w : World) (q : Int) (left : Int), Stays C w0 w → nodesS ts ≤ 2097152 → 0 ≤ left → left ≤ 2097152 → Calls Tryd.prog 102 #[.agg #[.int .i64 q, v], .int .i64 left] w (IntRet (LeftEnds left (1 + nodesS ts)) w)) ?_ h
  intro ts p c hl H w q left hst hn h0 hL
  have HH := Lib.hid H
  have HST := Lib.hid hst
  have hlen := nodesS_ge ts
  clear H hst
  go_enter Tryd.func102, Tryd.ntmps102
  go_wp2_with fail
  go_loopw [1, 5] (fun l i wr => ∃ (k : Nat) (L : Int), k ≤ ts.length ∧ i = .int .i64 k ∧ l = .int .i64 L ∧ LeftEnds (left - 1) (nodesS (ts.take k)) L ∧ Below (w.alloc (.cells #[.int .i64 q, .slice p ts.length c] 32)).heap.size (w.alloc (.cells #[.int .i64 q, .slice p ts.length c] 32)) wr) (fun _ i _ => ts.length - (intOf i).toNat)
  case atStart => exact ⟨0, _, Nat.zero_le _, rfl, rfl, leftEnds_start h0, Below.refl _ _⟩
  case round =>
    obtain ⟨k, L, hk, rfl, rfl, hle, hbr⟩ := hrel
    have HB := Lib.hid hbr
    obtain ⟨d0, d1⟩ := box2 hbr
    clear hbr
    by_cases hlk : k < ts.length
    · obtain ⟨b, o, p', c', rfl, hcs, hT, hI⟩ := HH.out k _ (List.getElem?_eq_getElem hlk)
      have hsr := HST.out.trans (Stays.of_below (C := C) (below_box HB.out))
      obtain ⟨c1, c2⟩ := hcs wr hsr
      have n1 := nodesS_take_next ts k hlk
      have n2 := nodesS_take_le ts (k + 1)
      have n3 := ts[k].nodes_eq
      have HM := Lib.hid hle
      have hLr := hle.range (by omega)
      clear hle
      by_cases hneg : L < 0
      · clear hcs hT hI hsr n1 n3
        go_wp2_with fail
        go_ret
        exact ⟨_, HM.out.stop hneg n2, rfl, below_box HB.out⟩
      have HC := Lib.hid (hI wr ts[k].kind L hsr (by omega) (by omega) (by omega))
      have HN1 := Lib.hid n1
      have HN2 := Lib.hid n2
      have HN3 := Lib.hid n3
      clear hcs hT hI hsr n1 n2 n3
      go_wp2_with fail
      refine HC.out.mono ?_
      rintro e w1 ⟨r, hr, rfl, hb1⟩
      have HB1 := Lib.hid (HB.out.trans (hb1.mono HB.out.size))
      clear hb1
      have hr2 := hr.range (by omega)
      have HR := Lib.hid hr
      clear hr
      go_wp2_with fail
      go_roundw
      case rel => exact ⟨k + 1, r, by omega, by go_num, rfl, by rw [HN1.out, HN3.out]; exact HM.out.next HR.out (by omega), HB1.out⟩
      case measure => simp [intOf]; omega
    · obtain rfl : k = ts.length := by omega
      rw [List.take_length] at hle
      have HM := Lib.hid hle
      have hLr := hle.range (by omega)
      clear hle
      go_wp2_with fail
      go_ret
      exact ⟨_, HM.out.full, rfl, below_box HB.out⟩

end Go.Proofs.YtfeijijeohfpgaaDoor
namespace Go.Proofs.YtfeijijeohfpgaaDoor
open Go Go.RowKit

def Ty.valid (t : Ty) : Bool := decide (t.nodes ≤ 30) && decide (t.depth ≤ 8) && t.form
def Ty.base (t : Ty) : Bool := decide ((t.kind = 1 ∨ t.kind = 2) ∧ t.args.length = 0)
def Ty.plain (t : Ty) : Bool := t.valid && !t.has 4

set_option maxRecDepth 100000 in
set_option maxHeartbeats 1000000 in
theorem valid_any {C : Nat → Prop} {t : Ty} {v : Value} {w : World} (h : TT w C t v) (hn : nodesS t.args ≤ 2097152) :
    Calls Tryd.prog 80 #[v] w (BoolRet (fun r => r = t.valid) w) := by
  obtain ⟨s, rfl, hS⟩ := h
  obtain ⟨p, c, rfl⟩ := hS.form
  have hb0 := (Below.refl w.heap.size w).alloc (Nat.le_refl _) (Obj.cells #[.int .i64 t.kind, .slice p t.args.length c] 32)
  have HB0 := Lib.hid hb0
  have HL := Lib.hid (left_any hS _ t.kind 30 (.of_below hb0) hn (by omega) (by omega))
  have HD := Lib.hid (fun w' (hw : Below w.heap.size w w') => depth_any hS w' t.kind (.of_below hw) hn)
  have HF := Lib.hid (fun w' (hw : Below w.heap.size w w') => form_any hS w' t.kind (.of_below hw) hn)
  have hdn := depthS_nodes t.args
  clear hS hb0
  have HV := Lib.hid (show t.valid = (decide (1 + nodesS t.args ≤ 30) && decide (1 + depthS t.args ≤ 8) && (Ty.mk t.kind t.args).form) by rw [Ty.valid, Ty.nodes_eq, depth_at, ← Ty.eta])
  go_enter Tryd.func80, Tryd.ntmps80
  go_wp2_with fail
  refine HL.out.mono ?_
  rintro e w1 ⟨r, hr, rfl, hb1⟩
  obtain ⟨c0, c1⟩ := box2 hb1
  have HB1 := Lib.hid (HB0.out.trans (hb1.mono HB0.out.size))
  have HR := Lib.hid hr
  have hrr := hr.range (by omega)
  by_cases h0 : 0 ≤ r
  · have hn30 : 1 + nodesS t.args ≤ 30 := by unfold LeftEnds at hr; omega
    clear hr hb1
    go_wp2_with fail
    refine (HD.out w1 HB1.out).mono ?_
    rintro e w2 ⟨d, rfl, rfl, hb2⟩
    have c20 := (hb2.cell (World.block_lt_of_cell? w1 _ c0)).trans c0
    have c21 := (hb2.cell (World.block_lt_of_cell? w1 _ c1)).trans c1
    have HB2 := Lib.hid (HB1.out.trans (hb2.mono HB1.out.size))
    clear hb2 c0 c1
    by_cases h8 : 1 + depthS t.args ≤ 8
    · go_wp2_with fail
      refine (HF.out w2 HB2.out).mono ?_
      rintro e w3 ⟨f, hf, rfl, hb3⟩
      have HB3 := Lib.hid (HB2.out.trans (hb3.mono HB2.out.size))
      have HFF := Lib.hid hf
      clear hf hb3
      go_wp2_with fail
      go_ret
      exact ⟨_, by rw [HV.out, ← HFF.out]; simp [hn30, h8], rfl, HB3.out⟩
    · go_wp2_with fail
      go_ret
      exact ⟨_, by rw [HV.out]; simp [h8], rfl, HB2.out⟩
  · have hn30 : ¬ 1 + nodesS t.args ≤ 30 := by unfold LeftEnds at hr; omega
    clear hr hb1
    go_wp2_with fail
    go_ret
    exact ⟨_, by rw [HV.out]; simp [hn30], rfl, HB1.out⟩

end Go.Proofs.YtfeijijeohfpgaaDoor
namespace Go.Proofs.YtfeijijeohfpgaaDoor
open Go Go.RowKit

end Go.Proofs.YtfeijijeohfpgaaDoor
namespace Go.Proofs.YtfeijijeohfpgaaDoor
open Go Go.RowKit

theorem ar_int (w : World) : Calls Tryd.prog 132 #[.agg #[]] w fun e w' => e = .returned (.int .i64 0) ∧ Below w.heap.size w w' := by
  go_enter Tryd.func132, Tryd.ntmps132
  go_wp2
  go_ret
  exact ⟨rfl, (Below.refl _ _).alloc (Nat.le_refl _) _⟩
theorem ar_bool (w : World) : Calls Tryd.prog 133 #[.agg #[]] w fun e w' => e = .returned (.int .i64 0) ∧ Below w.heap.size w w' := by
  go_enter Tryd.func133, Tryd.ntmps133
  go_wp2
  go_ret
  exact ⟨rfl, (Below.refl _ _).alloc (Nat.le_refl _) _⟩
theorem ar_fun (w : World) : Calls Tryd.prog 134 #[.agg #[]] w fun e w' => e = .returned (.int .i64 2) ∧ Below w.heap.size w w' := by
  go_enter Tryd.func134, Tryd.ntmps134
  go_wp2
  go_ret
  exact ⟨rfl, (Below.refl _ _).alloc (Nat.le_refl _) _⟩
theorem ar_code (w : World) : Calls Tryd.prog 135 #[.agg #[]] w fun e w' => e = .returned (.int .i64 1) ∧ Below w.heap.size w w' := by
  go_enter Tryd.func135, Tryd.ntmps135
  go_wp2
  go_ret
  exact ⟨rfl, (Below.refl _ _).alloc (Nat.le_refl _) _⟩

theorem meth_int (w : World) : (method 261 122 (.agg #[]) "loop.example/g00589/impl.arity").run Tryd.prog w = .ok (132, .agg #[]) w := by kernel_rfl
theorem meth_bool (w : World) : (method 261 123 (.agg #[]) "loop.example/g00589/impl.arity").run Tryd.prog w = .ok (133, .agg #[]) w := by kernel_rfl
theorem meth_fun (w : World) : (method 261 124 (.agg #[]) "loop.example/g00589/impl.arity").run Tryd.prog w = .ok (134, .agg #[]) w := by kernel_rfl
theorem meth_code (w : World) : (method 261 125 (.agg #[]) "loop.example/g00589/impl.arity").run Tryd.prog w = .ok (135, .agg #[]) w := by kernel_rfl
def kindV (k : Int) (n : Nat) : Value :=
  if k = 1 ∧ n = 0 then .iface 122 (.agg #[])
  else if k = 2 ∧ n = 0 then .iface 123 (.agg #[])
  else if k = 3 ∧ n = 2 then .iface 124 (.agg #[])
  else if k = 4 ∧ n = 1 then .iface 125 (.agg #[])
  else .nilIface

theorem keep1 {w W w1 : World} {p1 : Addr} {v1 : Value} (hb1 : Below W.heap.size W w1) (h : W.cell? p1 = some v1 ∧ Below w.heap.size w W) : w1.cell? p1 = some v1 ∧ Below w.heap.size w w1 :=
  ⟨(hb1.cell (World.block_lt_of_cell? W _ h.1)).trans h.1, h.2.trans (hb1.mono h.2.size)⟩

set_option maxRecDepth 100000 in
set_option maxHeartbeats 1000000 in
theorem kindOf_any (k : Int) (p : Option Addr) (n c : Nat) (w : World) (hn : n ≤ 9223372036854775807) :
    Calls Tryd.prog 89 #[.agg #[.int .i64 k, .slice p n c]] w fun e w' => e = .returned (kindV k n) ∧ Below w.heap.size w w' := by
  have HV := Lib.hid (fun v (h : kindV k n = v) (w' : World) (hb : Below w.heap.size w w') => (⟨by rw [h], hb⟩ : Ending.returned v = .returned (kindV k n) ∧ Below w.heap.size w w'))
  go_enter Tryd.func89, Tryd.ntmps89
  by_cases q1 : k = 1
  · subst q1
    have hm := meth_int
    have hB : Below w.heap.size w (w.alloc (Obj.cells #[.int .i64 1, .slice p n c] 32)) := (Below.refl w.heap.size w).alloc (Nat.le_refl _) _
    go_wp2_with fail
    go_region_held3 (fun w' => w'.cell? ⟨w.heap.size, 1, none⟩ = some (.slice p n c) ∧ Below w.heap.size w w')
      (first
        | (go_keep; done)
        | exact ⟨by simp [*], hB.drew⟩
        | exact keep1 hb1 (by assumption))
      (first | (go_at_call 132; refine (ar_int _).mono ?_; rintro e w1 ⟨rfl, hb1⟩))
    all_goals
      rename_i hH
      have HB := Lib.hid hH.2
      clear hH hb1 hB hm
      by_cases hz : n = 0
      · subst hz
        go_wp2_with fail
        go_ret
        exact HV.out _ (by simp [kindV]) _ HB.out
      · go_wp2_with fail
        go_ret
        exact HV.out _ (by simp [kindV, hz]) _ HB.out
  by_cases q2 : k = 2
  · subst q2
    have hm := meth_bool
    have hB : Below w.heap.size w (w.alloc (Obj.cells #[.int .i64 2, .slice p n c] 32)) := (Below.refl w.heap.size w).alloc (Nat.le_refl _) _
    go_wp2_with fail
    go_region_held3 (fun w' => w'.cell? ⟨w.heap.size, 1, none⟩ = some (.slice p n c) ∧ Below w.heap.size w w')
      (first
        | (go_keep; done)
        | exact ⟨by simp [*], hB.drew⟩
        | exact keep1 hb1 (by assumption))
      (first | (go_at_call 133; refine (ar_bool _).mono ?_; rintro e w1 ⟨rfl, hb1⟩))
    all_goals
      rename_i hH
      have HB := Lib.hid hH.2
      clear hH hb1 hB hm
      by_cases hz : n = 0
      · subst hz
        go_wp2_with fail
        go_ret
        exact HV.out _ (by simp [kindV]) _ HB.out
      · go_wp2_with fail
        go_ret
        exact HV.out _ (by simp [kindV, hz]) _ HB.out
  by_cases q3 : k = 3
  · subst q3
    have hm := meth_fun
    have hB : Below w.heap.size w (w.alloc (Obj.cells #[.int .i64 3, .slice p n c] 32)) := (Below.refl w.heap.size w).alloc (Nat.le_refl _) _
    go_wp2_with fail
    go_region_held3 (fun w' => w'.cell? ⟨w.heap.size, 1, none⟩ = some (.slice p n c) ∧ Below w.heap.size w w')
      (first
        | (go_keep; done)
        | exact ⟨by simp [*], hB.drew⟩
        | exact keep1 hb1 (by assumption))
      (first | (go_at_call 134; refine (ar_fun _).mono ?_; rintro e w1 ⟨rfl, hb1⟩))
    all_goals
      rename_i hH
      have HB := Lib.hid hH.2
      clear hH hb1 hB hm
      by_cases hz : n = 2
      · subst hz
        go_wp2_with fail
        go_ret
        exact HV.out _ (by simp [kindV]) _ HB.out
      · go_wp2_with fail
        go_ret
        exact HV.out _ (by simp [kindV, hz]) _ HB.out
  by_cases q4 : k = 4
  · subst q4
    have hm := meth_code
    have hB : Below w.heap.size w (w.alloc (Obj.cells #[.int .i64 4, .slice p n c] 32)) := (Below.refl w.heap.size w).alloc (Nat.le_refl _) _
    go_wp2_with fail
    go_region_held3 (fun w' => w'.cell? ⟨w.heap.size, 1, none⟩ = some (.slice p n c) ∧ Below w.heap.size w w')
      (first
        | (go_keep; done)
        | exact ⟨by simp [*], hB.drew⟩
        | exact keep1 hb1 (by assumption))
      (first | (go_at_call 135; refine (ar_code _).mono ?_; rintro e w1 ⟨rfl, hb1⟩))
    all_goals
      rename_i hH
      have HB := Lib.hid hH.2
      clear hH hb1 hB hm
      by_cases hz : n = 1
      · subst hz
        go_wp2_with fail
        go_ret
        exact HV.out _ (by simp [kindV]) _ HB.out
      · go_wp2_with fail
        go_ret
        exact HV.out _ (by simp [kindV, hz]) _ HB.out
  have hB := Lib.hid ((Below.refl w.heap.size w).alloc (Nat.le_refl _) (Obj.cells #[.int .i64 k, .slice p n c] 32))
  have t1 : (k == 1) = false := by simp [q1]
  have t2 : (k == 2) = false := by simp [q2]
  have t3 : (k == 3) = false := by simp [q3]
  have t4 : (k == 4) = false := by simp [q4]
  have hv := Lib.hid (show kindV k n = .nilIface by simp [kindV, q1, q2, q3, q4])
  clear q1 q2 q3 q4
  go_wp2_with fail
  go_region
  all_goals
    go_wp2_with fail
    go_ret
    exact HV.out _ hv.out _ hB.out.drew
end Go.Proofs.YtfeijijeohfpgaaDoor
namespace Go.Proofs.YtfeijijeohfpgaaDoor
open Go Go.RowKit

theorem kindV_cases (k : Int) (n : Nat) : ((k = 1 ∧ n = 0) ∧ kindV k n = .iface 122 (.agg #[])) ∨ ((k = 2 ∧ n = 0) ∧ kindV k n = .iface 123 (.agg #[])) ∨
    ((k = 3 ∧ n = 2) ∧ kindV k n = .iface 124 (.agg #[])) ∨ ((k = 4 ∧ n = 1) ∧ kindV k n = .iface 125 (.agg #[])) ∨
    ((¬ (k = 1 ∧ n = 0) ∧ ¬ (k = 2 ∧ n = 0) ∧ ¬ (k = 3 ∧ n = 2) ∧ ¬ (k = 4 ∧ n = 1)) ∧ kindV k n = .nilIface) := by
  unfold kindV
  by_cases h1 : k = 1 ∧ n = 0
  · simp [h1]
  by_cases h2 : k = 2 ∧ n = 0
  · simp [h2]
  by_cases h3 : k = 3 ∧ n = 2
  · simp [h3]
  by_cases h4 : k = 4 ∧ n = 1
  · simp [h4]
  simp [h1, h2, h3, h4]

def Ty.code (t : Ty) : Bool := decide (t.kind = 4 ∧ t.args.length = 1)

end Go.Proofs.YtfeijijeohfpgaaDoor
namespace Go.Proofs.YtfeijijeohfpgaaDoor
open Go Go.RowKit

theorem snoc_cases {α : Type} (l : List α) : l = [] ∨ ∃ l0 e, l = l0 ++ [e] := by
  rcases List.eq_nil_or_concat l with h | ⟨l0, e, h⟩
  · exact Or.inl h
  · exact Or.inr ⟨l0, e, by rw [h, List.concat_eq_append]⟩
theorem wrap_in (n : Nat) (h : n ≤ 9223372036854775807) : IntKind.i64.wrap (n : Int) = n := IntWalk.i64_in _ (by omega)
theorem keepApp {w0 w' : World} {base : Nat} {e : TypeId} {size n : Nat} {v : Value} {xs cs : List Value} {g cap : Nat} (hA : Appd w0 w' base e size v n xs cs g cap) {p : Addr} {u : Value} (h : w0.cell? p = some u) (hne : v.ownBlock ≠ some p.block) : w'.cell? p = some u :=
  (World.cell?_of_block (hA.kept p.block (World.block_lt_of_cell? w0 _ h) hne).1).trans h

end Go.Proofs.YtfeijijeohfpgaaDoor
namespace Go.Proofs.YtfeijijeohfpgaaDoor
open Go Go.RowKit

mutual
def Tm.depth : Tm → Nat
  | .mk _ _ _ _ _ _ ts => 1 + depthM ts
def depthM : List Tm → Nat
  | [] => 0
  | t :: ts => max t.depth (depthM ts)
end
mutual
theorem depthM_nodes : ∀ ts : List Tm, depthM ts ≤ nodesM ts
  | [] => Nat.le_refl _
  | t :: ts => by
    have h1 := Tm.depth_nodes t
    have h2 := depthM_nodes ts
    simp only [depthM, nodesM]
    omega
theorem Tm.depth_nodes : ∀ t : Tm, t.depth ≤ t.nodes
  | .mk k a b n t r ts => by
    have := depthM_nodes ts
    simp only [Tm.depth, Tm.nodes]
    omega
end
theorem box_rest {w w' : World} {A : Array Value} {T : TypeId} (h : Below (w.alloc (.cells A T)).heap.size (w.alloc (.cells A T)) w') : Below w.heap.size w w' :=
  (al_below w _).trans (h.mono (by simp))


end Go.Proofs.YtfeijijeohfpgaaDoor
namespace Go.Proofs.YtfeijijeohfpgaaDoor
open Go Go.RowKit Go.Shelf
attribute [local go_sem] Oper.semAt_some

abbrev LM (w : World) (C : Nat → Prop) (l : List Tm) (v : Value) : Prop := DM w C (tmD l) v
abbrev NM (w : World) (C : Nat → Prop) (t : Tm) (v : Value) : Prop := TM w C t v
theorem ntM_mk {w : World} {C : Nat → Prop} {t : Tm} {tp : Option Addr} {tc : Nat} {rp : Option Addr} {rc : Nat} {p : Option Addr} {c : Nat} (h : TM' w C t tp tc rp rc p c) : NM w C t (tmV t tp tc rp rc p c) := ⟨_, _, _, _, _, _, rfl, h⟩

mutual
def walkM : Tm → Nat → List (Tm × Nat)
  | .mk k a b n t r ts, d => (.mk k a b n t r ts, d) :: walkSM ts (d + 1)
def walkSM : List Tm → Nat → List (Tm × Nat)
  | [], _ => []
  | t :: ts, d => walkM t d ++ walkSM ts d
end
theorem walkM_eq (t : Tm) (d : Nat) : walkM t d = (t, d) :: walkSM t.args (d + 1) := by cases t; rfl
theorem walkSM_one (t : Tm) (d : Nat) : walkSM [t] d = walkM t d := by simp [walkSM]
mutual
theorem walkM_length : ∀ (t : Tm) (d : Nat), (walkM t d).length = t.nodes
  | .mk k a b n t r ts, d => by simp only [walkM, List.length_cons, walkSM_length ts, Tm.nodes]; omega
theorem walkSM_length : ∀ (ts : List Tm) (d : Nat), (walkSM ts d).length = nodesM ts
  | [], d => by simp [walkSM, nodesM]
  | t :: ts, d => by simp only [walkSM, List.length_append, walkSM_length ts, walkM_length t, nodesM]
end
abbrev WaitM := List (List Tm × Value)
def rWM : WaitM → List (Tm × Nat)
  | [] => []
  | e :: r => walkSM e.1 (r.length + 1) ++ rWM r
def stWalkM (st : WaitM) : List (Tm × Nat) := rWM st.reverse
theorem stWalkM_snoc (st : WaitM) (e : List Tm × Value) : stWalkM (st ++ [e]) = walkSM e.1 (st.length + 1) ++ stWalkM st := by simp [stWalkM, rWM]
theorem stWalkM_nil : stWalkM [] = [] := rfl

theorem wsndM_last (st : WaitM) (e : List Tm × Value) : ((st ++ [e]).map (·.2))[st.length]? = some e.2 := by simp
theorem wsndM_take (st : WaitM) (e : List Tm × Value) : ((st ++ [e]).map (·.2)).take (st.length * 1) = st.map (·.2) := by simp
theorem wsndM_set (st : WaitM) (e : List Tm × Value) (l : List Tm) (u : Value) : ((st ++ [e]).map (·.2)).set st.length u = (st ++ [(l, u)]).map (·.2) := by
  simp

theorem infoLM : (Tryd.prog.info? 33).map (fun i => (i.zero, i.size, i.bytes)) = some (some (.slice none 0 0), 1, 24) := by kernel_rfl
structure MidM (W wr : World) (C : Nat → Prop) (t : Tm) (tp : Option Addr) (tc : Nat) (rp : Option Addr) (rc : Nat) (p : Option Addr) (c : Nat) (J : List (Tm × Nat) → World → Prop) (pre : List (Tm × Nat)) (st : WaitM) (g cap : Nat) : Prop where
  own : wr.ownsRow (W.heap.size + 1) 33 1 (.slice (some ⟨g, 0, none⟩) st.length cap) st.length (st.map (·.2))
  j : J pre wr
  ts : ∀ e ∈ st, LM W C e.1 e.2 ∨ e = ([t], .slice (some ⟨W.heap.size, 0, none⟩) 1 1)
  stays : Stays C W wr
  size : W.heap.size ≤ wr.heap.size
  root : wr.heap[W.heap.size]? = some (.cells (tmC t tp tc rp rc p c) 35 (0, 0))
  node : TM' W C t tp tc rp rc p c
  cnt : st.length ≤ pre.length + 1

theorem MidM.lt {W wr : World} {C : Nat → Prop} {t : Tm} {tp : Option Addr} {tc : Nat} {rp : Option Addr} {rc : Nat} {p : Option Addr} {c : Nat} {J : List (Tm × Nat) → World → Prop} {pre : List (Tm × Nat)} {st : WaitM} {g cap : Nat} (h : MidM W wr C t tp tc rp rc p c J pre st g cap) : W.heap.size < wr.heap.size := (Array.getElem?_eq_some_iff.1 h.root).1
theorem MidM.open {W wr : World} {C : Nat → Prop} {t : Tm} {tp : Option Addr} {tc : Nat} {rp : Option Addr} {rc : Nat} {p : Option Addr} {c : Nat} {J : List (Tm × Nat) → World → Prop} {pre : List (Tm × Nat)} {st : WaitM} {g cap : Nat} {x : Tm} {l : List Tm} {v : Value} (h : MidM W wr C t tp tc rp rc p c J pre (st ++ [(x :: l, v)]) g cap) :
    ∃ (b o c : Nat) (tp' : Option Addr) (tc' : Nat) (rp' : Option Addr) (rc' : Nat) (p' : Option Addr) (c' : Nat), v = .slice (some ⟨b, o, none⟩) (l.length + 1) c ∧ l.length + 1 ≤ c ∧ c ≤ 9223372036854775807 ∧ (C b ∨ b = W.heap.size) ∧ b < wr.heap.size ∧
      At9 wr b o x tp' tc' rp' rc' p' c' ∧ TM' W C x tp' tc' rp' rc' p' c' ∧ ∀ q, (l ≠ [] → q = some ⟨b, o + 9, none⟩) → LM W C l (.slice q l.length (c - 1)) := by
  rcases h.ts (x :: l, v) (by simp) with hT | he
  · simp only at hT
    obtain ⟨q0, d0, hv0⟩ := hT.form
    have hT0 := hT
    rw [hv0] at hT0
    obtain ⟨b', o', tp', tc', rp', rc', p', c', hq, hC', hb', h9, hx⟩ := tm_part hT0 0 (by simp)
    cases hT with
    | @rows _ _ _ b o c _ V h1 hc hm hl hC hb hv hr =>
      simp only [Value.slice.injEq] at hv0
      obtain ⟨e1, _, _⟩ := hv0
      have e2 := e1.trans hq
      simp only [Option.some.injEq, Addr.mk.injEq] at e2
      obtain ⟨rfl, rfl, _⟩ := e2
      have h9' := h9 wr h.stays
      rw [Nat.zero_mul, Nat.add_zero] at h9'
      refine ⟨b, o, c, tp', tc', rp', rc', p', c', rfl, hc, hm, Or.inl hC, Nat.lt_of_lt_of_le hb h.size, h9', hx, fun q hq => ?_⟩
      have hf : flatTm (x :: l) = x.ds ++ flatTm l := rfl
      have hsh : ∀ i, (flatTm (x :: l))[i + 9]? = (flatTm l)[i]? := fun i => by
        rw [hf, List.getElem?_append_right (by rw [x.ds_len]; omega), x.ds_len, Nat.add_sub_cancel]
      by_cases hl' : l = []
      · subst hl'; exact .nil _ _ _ _
      · rw [hq hl']
        have hl1 : 1 ≤ l.length := by cases l with | nil => exact absurd rfl hl' | cons => simp
        simp only [List.length_cons] at hc
        refine .rows (fun i => V (i + 9)) hl1 (by omega) (by omega) (flatTm_len l) hC hb (fun i d hi => ?_) (fun i d hi => hr (i + 9) d (by rw [hsh]; exact hi))
        have := hv (i + 9) d (by rw [hsh]; exact hi)
        rw [show o + (i + 9) = o + 9 + i by omega] at this; exact this
  · simp only [Prod.mk.injEq, List.cons.injEq] at he
    obtain ⟨⟨rfl, rfl⟩, rfl⟩ := he
    refine ⟨W.heap.size, 0, 1, tp, tc, rp, rc, p, c, rfl, by simp, by omega, Or.inr rfl, h.lt, ?_, h.node, fun q hq => ?_⟩
    · have hr := h.root
      exact ⟨cell_of_blk hr 0, cell_of_blk hr 1, cell_of_blk hr 2, cell_of_blk hr 3, cell_of_blk hr 4, cell_of_blk hr 5, cell_of_blk hr 6, cell_of_blk hr 7, cell_of_blk hr 8⟩
    · exact .nil _ _ _ _

theorem argsM_any (t : Tm) (tp : Option Addr) (tc : Nat) (rp : Option Addr) (rc : Nat) (p : Option Addr) (c : Nat) (w : World) : Calls Tryd.prog 75 #[tmV t tp tc rp rc p c] w fun e w' => e = .returned (.slice p t.args.length c) ∧ Below w.heap.size w w' := by
  go_enter Tryd.func75, Tryd.ntmps75
  go_wp2
  go_ret
  exact ⟨rfl, (Below.refl _ _).alloc (Nat.le_refl _) _⟩

set_option maxRecDepth 100000 in
set_option maxHeartbeats 4000000 in
theorem nodesM_it (l Bt Bp : Nat) (t : Tm) (tp : Option Addr) (tc : Nat) (rp : Option Addr) (rc : Nat) (p : Option Addr) (c : Nat) (Cb C : Nat → Prop) (W : World) (J Jx : List (Tm × Nat) → World → Prop)
    (hBt : W.heap[Bt]? = some (.cells (tmC t tp tc rp rc p c) 35 (0, 0))) (hBp : W.heap[Bp]? = some (.cells #[.func (.func 75) #[] #[]] 83 (0, 0))) (hT : TM' W C t tp tc rp rc p c) (hn : t.nodes ≤ 2097153)
    (hCb : ∀ b, Cb b → b < W.heap.size) (hC : ∀ b, C b → ¬ Cb b ∧ b < W.heap.size) (hCp : C Bp)
    (hJ : ∀ pre A B, J pre A → Below W.heap.size A B → J pre B)
    (hY : ∀ pre x v d W1, J pre W1 → pre ++ [(x, d)] <+: walkM t 1 → NM W1 C x v → YieldAt Fence.wide 0 Tryd.prog l #[v, .int .i64 (d : Nat)] W1 fun e W' =>
      (e = .returned (.bool true) ∧ J (pre ++ [(x, d)]) W' ∧ Holds Cb W1 W') ∨ (e = .returned (.bool false) ∧ Jx (pre ++ [(x, d)]) W'))
    (h0 : J [] W) :
    CallsIn Fence.wide 1 Tryd.prog 106 #[.func (.yield l) #[] #[], .pointer (some ⟨Bt, 0, none⟩), .pointer (some ⟨Bp, 0, none⟩)] W fun e W' =>
      (∃ v, e = .returned v) ∧ (J (walkM t 1) W' ∨ ∃ pre, pre <+: walkM t 1 ∧ Jx pre W') := by
  obtain ⟨i0, hi, hz0, hz1, hz2⟩ := info_parts infoLM
  have HT := Lib.hid hT
  have HY := Lib.hid hY
  have HJ := Lib.hid hJ
  have HJ0 := Lib.hid h0
  have HCb := Lib.hid hCb
  have HC := Lib.hid hC
  have HCP := Lib.hid hCp
  have HBP := Lib.hid hBp
  have HN := Lib.hid hn
  obtain ⟨k0, k1, k2, k3, k4, k5, k6, k7, k8⟩ := Bx9.of hBt
  have kp := cell_of_blk hBp 0
  simp only [List.getElem?_toArray, List.getElem?_cons_zero] at kp
  clear hT hY hJ h0 hCb hC hBt hBp hn
  refine callsIn_of_wp Tryd.func106 rfl trivial ?_ rfl
  simp only [Tryd.ntmps106, List.size_toArray, List.length_cons, List.length_nil, Nat.reduceAdd, Nat.reduceSub, Array.replicate_succ, Array.replicate_zero, List.push_toArray, List.append_toArray, List.nil_append, List.cons_append]
  gi_wp2_with fail
  gi_loopg [4] (2 * (walkM t 1).length + 1) (fun k v wr => ∃ (pre : List (Tm × Nat)) (st : WaitM) (g cap : Nat), v = .slice (some ⟨g, 0, none⟩) st.length cap ∧ k = 2 * (stWalkM st).length + st.length ∧ pre ++ stWalkM st = walkM t 1 ∧ MidM W wr C t tp tc rp rc p c J pre st g cap)
  case atStart =>
    refine ⟨[], [([t], .slice (some ⟨W.heap.size, 0, none⟩) 1 1)], W.heap.size + 1, 1, rfl, by simp [stWalkM, rWM, walkSM_one], by simp [stWalkM, rWM, walkSM_one], ?_⟩
    have hb : Below W.heap.size W ((W.alloc (.cells (tmC t tp tc rp rc p c) 35)).alloc (.cells #[.slice (some ⟨W.heap.size, 0, none⟩) 1 1] 33)) := ((Below.refl _ W).alloc (Nat.le_refl _) _).alloc (by simp) _
    refine ⟨?_, HJ.out _ _ _ HJ0.out hb, ?_, .of_below hb, hb.size, ?_, HT.out, by simp⟩
    · have h1 := World.ownsRow_lit (base := W.heap.size + 1) (e := 33) (size := 1) (W.alloc (.cells (tmC t tp tc rp rc p c) 35)) #[.slice (some ⟨W.heap.size, 0, none⟩) 1 1] 1 (by simp) (by unfold maxLen; omega) rfl
      rw [show (W.alloc (.cells (tmC t tp tc rp rc p c) 35)).heap.size = W.heap.size + 1 by simp] at h1
      exact h1
    · intro e he
      simp only [List.mem_singleton] at he
      exact Or.inr he
    · rw [Below.heap_alloc _ _ _ (by simp)]
      exact blk_new _ _
  case round =>
    rename World => wo
    obtain ⟨pre, st, g, cap, rfl, rfl, hord, hM⟩ := hrel
    rcases snoc_cases st with rfl | ⟨st0, ⟨ls, sl⟩, rfl⟩
    · have HM := Lib.hid hM
      have HO := Lib.hid hord
      clear hM hord
      gi_wp2
      go_end0
      have hp : pre = walkM t 1 := by have := HO.out; simpa [stWalkM, rWM] using this
      exact ⟨⟨_, rfl⟩, .inl (hp ▸ HM.out.j)⟩
    · have hlen : (st0 ++ [((ls, sl) : List Tm × Value)]).length = st0.length + 1 := by simp
      have hown := hM.own
      rw [hlen] at hown
      rw [hlen]
      obtain ⟨hcap1, hcap2, hg1, hg2⟩ := row_cap hown
      have k0 := (hown.cellAt st0.length (by omega)).trans (wsndM_last st0 _)
      have kz := hown.frozenAt st0.length
      simp only at k0
      unfold maxLen at hcap2
      have i0' : (0 : Int) ≤ (st0.length : Int) := Int.natCast_nonneg _
      have i1' : (st0.length : Int) < ((st0.length : Int) + 1) := by omega
      have hcnt : st0.length ≤ 2097153 := by
        have h1 := hM.cnt
        have h2 := congrArg List.length hord
        have h3 := HN.out
        rw [List.length_append, walkM_length] at h2
        rw [hlen] at h1
        omega
      cases ls with
      | nil =>
        have HM := Lib.hid hM
        have HO := Lib.hid hord
        have HOWN := Lib.hid hown
        obtain ⟨a, c0, hsl⟩ : ∃ a c, sl = .slice a 0 c := by
          rcases hM.ts ([], sl) (by simp) with h1 | h1
          · exact h1.form
          · simp at h1
        subst hsl
        clear hM hord hown
        gi_wp2_with fail
        go_roundg (2 * (stWalkM st0).length + st0.length)
        case rel =>
          have h1 := row_take HOWN.out (Nat.le_succ st0.length)
          rw [wsndM_take] at h1
          refine ⟨pre, st0, g, cap, rfl, rfl, by have := HO.out; rwa [stWalkM_snoc] at this, h1, HM.out.j, fun e he => HM.out.ts e (List.mem_append_left _ he), HM.out.stays, HM.out.size, HM.out.root, HM.out.node, ?_⟩
          have := HM.out.cnt
          rw [List.length_append] at this
          omega
        case measure =>
          rw [stWalkM_snoc, List.length_append, List.length_append]
          simp only [walkSM, List.length_nil, List.length_singleton]
          omega
      | cons x ls =>
        obtain ⟨b, o, c0, tp', tc', rp', rc', p', c', rfl, hlc, hc63, hbC, hbw, hcell, hnx, htail⟩ := hM.open
        have hbg : b ≠ g := by
          have h1 := hg1
          rcases hbC with h2 | h2
          · have := (HC.out b h2).2
            omega
          · omega
        obtain ⟨q, hq⟩ : ∃ q, (if c0 = 1 then some (⟨b, o, none⟩ : Addr) else some ⟨b, o + 9, none⟩) = q := ⟨_, rfl⟩
        have htl : LM W C ls (.slice q ls.length (c0 - 1)) := htail q (fun hne => by
          have h1 : 1 ≤ ls.length := by cases ls with | nil => exact absurd rfl hne | cons => simp
          rw [← hq, if_neg (by omega)])
        obtain ⟨hst, hgr⟩ := hown.stored st0.length (.slice q ls.length (c0 - 1))
        rw [wsndM_set st0 _ ls] at hst
        have hb1 : Below (W.heap.size + 1) wo (wo.setCell ⟨g, st0.length, none⟩ (.slice q ls.length (c0 - 1))) := (Below.refl _ wo).setCell (p := ⟨g, st0.length, none⟩) hg1 _
        have hcC : ∀ z, C z → z < W.heap.size := fun z hz => (HC.out z hz).2
        have hst1 : Stays C W (wo.setCell ⟨g, st0.length, none⟩ (.slice q ls.length (c0 - 1))) := hM.stays.trans ⟨hb1.size, fun z hz _ => hb1.block z (by have := hcC z hz; omega)⟩
        have hpre : pre ++ [(x, st0.length + 1)] <+: walkM t 1 := ⟨walkSM x.args (st0.length + 1 + 1) ++ (walkSM ls (st0.length + 1) ++ stWalkM st0), by rw [← hord, stWalkM_snoc]; simp only [walkSM, walkM_eq, List.cons_append, List.append_assoc, List.nil_append]⟩
        obtain ⟨fn, tmps, assign, body, hy, hR⟩ := HY.out pre x (tmV x tp' tc' rp' rc' p' c') (st0.length + 1) _ (HJ.out _ _ _ hM.j (hb1.mono (by omega))) hpre (ntM_mk (hnx.stays hst1))
        rw [show ((st0.length + 1 : Nat) : Int) = (st0.length : Int) + 1 from rfl] at hy
        have hroot : (wo.setCell ⟨g, st0.length, none⟩ (.slice q ls.length (c0 - 1))).heap[W.heap.size]? = some (.cells (tmC t tp tc rp rc p c) 35 (0, 0)) := (hb1.block _ (by omega)).trans hM.root
        have HM := Lib.hid hM
        have HO := Lib.hid hord
        have HST := Lib.hid hst
        have HB1 := Lib.hid hb1
        have HST1 := Lib.hid hst1
        have HPRE := Lib.hid hpre
        have HR := Lib.hid hR
        have HTL := Lib.hid htl
        have HNX := Lib.hid hnx
        have HBC := Lib.hid hbC
        have HROOT := Lib.hid hroot
        have HQ := Lib.hid hlc
        obtain ⟨f0, f1, f2, f3, f4, f5, f6, f7, f8⟩ := hcell
        have hl1 : (1 : Int) ≤ ((ls.length : Int) + 1) := by omega
        clear hM hord hown hst hgr hb1 hst1 hpre hR htl htail hnx hbC hcC hroot
        gi_wp2_with fail
        refine HR.out.mono ?_
        rintro e W3 (⟨rfl, hJ3, hH3⟩ | ⟨rfl, hJx3⟩)
        · have hbnC : ¬ Cb b := by
            rcases HBC.out with h1 | h1
            · exact (HC.out b h1).1
            · intro hc; have := HCb.out b hc; omega
          have hgnC : ¬ Cb g := fun hc => by have := HCb.out g hc; omega
          have hs1 := HB1.out.size
          have hb3 : W3.heap[b]? = wo.heap[b]? := (hH3.2 b (by omega) hbnC).trans (Below.heap_setCell _ _ _ _ hbg)
          have hp3 : W3.heap[Bp]? = W.heap[Bp]? := by
            have h1 := HC.out Bp hCp
            have h2 := HM.out.size
            rw [hH3.2 Bp (by omega) h1.1]
            exact HST1.out.2 Bp hCp h1.2
          have hown3 := row_of_block HST.out (hH3.2 g (by omega) hgnC)
          have hr3 : W3.heap[W.heap.size]? = some (.cells (tmC t tp tc rp rc p c) 35 (0, 0)) := by
            rw [hH3.2 W.heap.size (by have := HM.out.lt; omega) (fun hc => by have := HCb.out _ hc; omega)]
            exact HROOT.out
          have hlen3 : (st0 ++ [(ls, Value.slice q ls.length (c0 - 1))]).length = st0.length + 1 := by simp
          have hM3 : MidM W W3 C t tp tc rp rc p c J (pre ++ [(x, st0.length + 1)]) (st0 ++ [(ls, .slice q ls.length (c0 - 1))]) g cap := by
            refine ⟨?_, hJ3, fun e he => ?_, HST1.out.trans ⟨hH3.1, fun z hz hl => hH3.2 z hl (HC.out z hz).1⟩, ?_, hr3, HM.out.node, ?_⟩
            · rw [hlen3]; exact hown3
            · rcases List.mem_append.1 he with he | he
              · exact HM.out.ts e (List.mem_append_left _ he)
              · simp only [List.mem_singleton] at he
                subst he
                exact Or.inl HTL.out
            · have := hH3.1
              have := HM.out.size
              omega
            · have := HM.out.cnt
              rw [hlen] at this
              rw [hlen3, List.length_append, List.length_singleton]
              omega
          have g0 := (World.cell?_of_block (a := ⟨b, o, none⟩) hb3).trans f0
          have g1 := (World.cell?_of_block (a := ⟨b, o + 1, none⟩) hb3).trans f1
          have g2 := (World.cell?_of_block (a := ⟨b, o + 2, none⟩) hb3).trans f2
          have g3 := (World.cell?_of_block (a := ⟨b, o + 3, none⟩) hb3).trans f3
          have g4 := (World.cell?_of_block (a := ⟨b, o + 4, none⟩) hb3).trans f4
          have g5 := (World.cell?_of_block (a := ⟨b, o + 5, none⟩) hb3).trans f5
          have g6 := (World.cell?_of_block (a := ⟨b, o + 6, none⟩) hb3).trans f6
          have g7 := (World.cell?_of_block (a := ⟨b, o + 7, none⟩) hb3).trans f7
          have g8 := (World.cell?_of_block (a := ⟨b, o + 8, none⟩) hb3).trans f8
          have kp3 := cell_of_blk (hp3.trans HBP.out) 0
          simp only [List.getElem?_toArray, List.getElem?_cons_zero] at kp3
          have HM3 := Lib.hid hM3
          have HOWN3 := Lib.hid hown3
          have hsz3 := hM3.lt
          clear hJ3 hH3 hown3 hM3 hy HR k0 kz hb3 hp3 hr3 hbnC hgnC f0 f1 f2 f3 f4 f5 f6 f7 f8 HB1 HST1 HST
          gi_wp2_with fail
          refine wpIn_wide.2 ?_
          go_region_law (first
            | (refine step_app1 (w0 := w1) (base := W.heap.size + 1) (v := .slice (some ⟨g, 0, none⟩) (st0.length + 1) cap) (n := st0.length + 1) (xs := (st0 ++ [(ls, Value.slice q ls.length (c0 - 1))]).map (·.2)) (cs := [.slice p' x.args.length c']) rfl (.tmp 40) (.tmp 46) rfl Tryd.underlying120 hi hz0 hz1 hz2 rfl (by decide) rfl (row_below HOWN3.out ((Below.refl W3.heap.size W3).drew.trans hb1)) _ rfl (by simp) rfl (fun u hu => by simp at hu; subst hu; rfl) (by unfold maxLen; omega) (by omega) (by have := hb1.size; simp at this; omega) ?_; intro w' g2 cap2 hA)
            | (go_simp; go_at_call 75; refine (argsM_any _ _ _ _ _ _ _ _).mono ?_; rintro e w1 ⟨rfl, hb1⟩))
          all_goals
            have HA := Lib.hid hA
            have HB := Lib.hid hb1
            clear hA hb1
            gi_wp2_with fail
            go_roundg (2 * (stWalkM ((st0 ++ [(ls, Value.slice q ls.length (c0 - 1))]) ++ [(x.args, .slice p' x.args.length c')])).length + (st0.length + 2))
            case rel =>
              have hb3 : Below W3.heap.size W3 w1 := (Below.refl W3.heap.size W3).drew.trans HB.out
              have hlen3 : (st0 ++ [(ls, Value.slice q ls.length (c0 - 1))]).length = st0.length + 1 := by simp
              have hg3 := (row_cap HOWN3.out).2.2
              have hs3 := hb3.size
              have hbw : Below (W.heap.size + 1) W3 w' := (hb3.mono (by omega)).trans HA.out.below
              refine ⟨pre ++ [(x, st0.length + 1)], (st0 ++ [(ls, .slice q ls.length (c0 - 1))]) ++ [(x.args, .slice p' x.args.length c')], g2, cap2, by rw [List.length_append, hlen3]; rfl, by rw [List.length_append, hlen3]; rfl, ?_, ?_⟩
              · rw [stWalkM_snoc, hlen3, stWalkM_snoc, ← HO.out, stWalkM_snoc]
                simp only [walkSM, walkM_eq, List.cons_append, List.append_assoc, List.nil_append]
              · refine ⟨?_, HJ.out _ _ _ HM3.out.j (hbw.mono (by omega)), fun e he => ?_, HM3.out.stays.trans ⟨hbw.size, fun z hz _ => hbw.block z (by have := (HC.out z hz).2; omega)⟩, by have := hbw.size; have := HM3.out.size; omega, (hbw.block _ (by omega)).trans HM3.out.root, HM3.out.node, ?_⟩
                · rw [List.map_append, List.length_append, hlen3]
                  exact HA.out.own
                · rcases List.mem_append.1 he with he | he
                  · exact HM3.out.ts e he
                  · simp only [List.mem_singleton] at he
                    subst he
                    exact Or.inl (TM'.args HNX.out)
                · have := HM.out.cnt
                  rw [hlen] at this
                  simp only [List.length_append, List.length_cons, List.length_nil]
                  omega
            case measure =>
              have h1 := HO.out
              simp only [stWalkM_snoc, walkSM, walkM_eq, List.length_append, List.length_cons, List.length_nil, Nat.zero_add]
              omega
        · gi_wp2_with fail
          refine bodyPost_ret (results_none rfl _ _ _) rfl ?_
          exact ⟨⟨_, rfl⟩, .inr ⟨pre ++ [(x, st0.length + 1)], HPRE.out, hJx3⟩⟩
end Go.Proofs.YtfeijijeohfpgaaDoor
namespace Go.Proofs.YtfeijijeohfpgaaDoor
open Go Go.RowKit

theorem box_new (w : World) (A : Array Value) (T : TypeId) : ∃ wl : World, w.alloc (.cells A T) = wl ∧ wl.heap.size = w.heap.size + 1 ∧ Below w.heap.size w wl ∧ wl.heap[w.heap.size]? = some (.cells A T (0, 0)) :=
  ⟨_, rfl, by simp, (Below.refl _ w).alloc (Nat.le_refl _) _, blk_new _ _⟩
theorem box_new2 (w : World) (A B : Array Value) (tA tB : TypeId) : ∃ wl : World, (w.alloc (.cells A tA)).alloc (.cells B tB) = wl ∧ wl.heap.size = w.heap.size + 2 ∧ Below w.heap.size w wl ∧
    wl.heap[w.heap.size]? = some (.cells A tA (0, 0)) ∧ wl.heap[w.heap.size + 1]? = some (.cells B tB (0, 0)) := by
  have s1 : (w.alloc (.cells A tA)).heap.size = w.heap.size + 1 := by simp
  refine ⟨_, rfl, by simp, ((Below.refl _ w).alloc (Nat.le_refl _) _).alloc (by simp) _, ?_, ?_⟩
  · rw [Below.heap_alloc _ _ _ (by simp)]
    exact blk_new _ _
  · rw [← s1]
    exact blk_new _ _
theorem box_new3 (w : World) (A B D : Array Value) (tA tB tD : TypeId) : ∃ wl : World, ((w.alloc (.cells A tA)).alloc (.cells B tB)).alloc (.cells D tD) = wl ∧ wl.heap.size = w.heap.size + 3 ∧ Below w.heap.size w wl ∧
    wl.heap[w.heap.size]? = some (.cells A tA (0, 0)) ∧ wl.heap[w.heap.size + 1]? = some (.cells B tB (0, 0)) ∧ wl.heap[w.heap.size + 1 + 1]? = some (.cells D tD (0, 0)) := by
  have s1 : (w.alloc (.cells A tA)).heap.size = w.heap.size + 1 := by simp
  have s2 : ((w.alloc (.cells A tA)).alloc (.cells B tB)).heap.size = w.heap.size + 1 + 1 := by simp
  refine ⟨_, rfl, by simp, (((Below.refl _ w).alloc (Nat.le_refl _) _).alloc (by simp) _).alloc (by simp; omega) _, ?_, ?_, ?_⟩
  · rw [Below.heap_alloc _ _ _ (by simp; omega), Below.heap_alloc _ _ _ (by simp)]
    exact blk_new _ _
  · rw [Below.heap_alloc _ _ _ (by simp), ← s1]
    exact blk_new _ _
  · rw [← s2]
    exact blk_new _ _
theorem box_new5 (w : World) (A B D E F : Array Value) (tA tB tD tE tF : TypeId) : ∃ wl : World, ((((w.alloc (.cells A tA)).alloc (.cells B tB)).alloc (.cells D tD)).alloc (.cells E tE)).alloc (.cells F tF) = wl ∧ wl.heap.size = w.heap.size + 5 ∧ Below w.heap.size w wl ∧
    wl.heap[w.heap.size]? = some (.cells A tA (0, 0)) ∧ wl.heap[w.heap.size + 1]? = some (.cells B tB (0, 0)) ∧ wl.heap[w.heap.size + 1 + 1]? = some (.cells D tD (0, 0)) ∧ wl.heap[w.heap.size + 1 + 1 + 1]? = some (.cells E tE (0, 0)) ∧ wl.heap[w.heap.size + 1 + 1 + 1 + 1]? = some (.cells F tF (0, 0)) := by
  obtain ⟨w3, h3, hs3, hb3, k0, k1, k2⟩ := box_new3 w A B D tA tB tD
  obtain ⟨w5, h5, hs5, hb5, k3, k4⟩ := box_new2 w3 E F tE tF
  refine ⟨w5, by rw [h3]; exact h5, by omega, hb3.trans (hb5.mono (by omega)), (hb5.block _ (by omega)).trans k0, (hb5.block _ (by omega)).trans k1, (hb5.block _ (by omega)).trans k2, ?_, ?_⟩
  · rw [hs3] at k3; exact k3
  · rw [hs3] at k4; exact k4
end Go.Proofs.YtfeijijeohfpgaaDoor
namespace Go.Proofs.YtfeijijeohfpgaaDoor
open Go Go.RowKit Go.Shelf
attribute [local go_sem] Oper.semAt_some

theorem nstaysM {w w' : World} {C : Nat → Prop} {t : Tm} {v : Value} (h : NM w C t v) (hs : Stays C w w') : NM w' C t v := TM.stays h hs
abbrev encNM (x : Tm × Value × Nat) : Array Value := #[x.2.1, .int .i64 (x.2.2 : Nat)]
abbrev keyNM (x : Tm × Value × Nat) : Tm × Nat := (x.1, x.2.2)
abbrev GoodNM (C : Nat → Prop) (x : Tm × Value × Nat) (W : World) : Prop := NM W C x.1 x.2.1
structure IterM (w : World) (t : Tm) (tp : Option Addr) (tc : Nat) (rp : Option Addr) (rc : Nat) (p : Option Addr) (c : Nat) (Bt Bp : Nat) : Prop where
  bt : w.heap[Bt]? = some (.cells (tmC t tp tc rp rc p c) 35 (0, 0))
  bp : w.heap[Bp]? = some (.cells #[.func (.func 75) #[] #[]] 83 (0, 0))
  node : TM' w (· < w.heap.size) t tp tc rp rc p c
abbrev iterM (Bt Bp : Nat) : Value := .func (.func 106) #[] #[.pointer (some ⟨Bt, 0, none⟩), .pointer (some ⟨Bp, 0, none⟩)]
theorem nodesM_seq2 {w wl : World} {C : Nat → Prop} {t : Tm} {tp : Option Addr} {tc : Nat} {rp : Option Addr} {rc : Nat} {p : Option Addr} {c : Nat} {Bt Bp : Nat} (h : IterM w t tp tc rp rc p c Bt Bp) (hT : TM' w C t tp tc rp rc p c) (hn : t.nodes ≤ 2097153) (hb : Below w.heap.size w wl) (Cb : Nat → Prop) (hCb : ∀ b, Cb b → b < wl.heap.size) (hC : ∀ b, C b → ¬ Cb b ∧ b < w.heap.size) (hp : C Bp) :
    SeqT Fence.wide 1 Tryd.prog 106 #[.pointer (some ⟨Bt, 0, none⟩), .pointer (some ⟨Bp, 0, none⟩)] encNM keyNM (GoodNM C) Cb (walkM t 1) wl := by
  intro l J Jx W hbW hJ hY hJ0
  have hbt := (Array.getElem?_eq_some_iff.1 h.bt).1
  have hbp := (Array.getElem?_eq_some_iff.1 h.bp).1
  have hbb : Below w.heap.size w W := hb.trans (hbW.mono hb.size)
  exact nodesM_it l Bt Bp t tp tc rp rc p c Cb C W J Jx ((hbb.block _ hbt).trans h.bt) ((hbb.block _ hbp).trans h.bp) (hT.stays (.of_below hbb)) hn
    (fun b hc => Nat.lt_of_lt_of_le (hCb b hc) hbW.size) (fun b hc => ⟨(hC b hc).1, Nat.lt_of_lt_of_le (hC b hc).2 hbb.size⟩) hp hJ (fun pre x v d W1 h1 h2 h3 => hY pre (x, v, d) W1 h1 h2 h3) hJ0

theorem goodM_keep {C : Nat → Prop} {n : Nat} (hC : ∀ b, C b → b < n) (x : Tm × Value × Nat) (A B : World) (h : GoodNM C x A) (hb : Below n A B) : GoodNM C x B :=
  nstaysM h ⟨hb.size, fun b hc _ => hb.block b (hC b hc)⟩

def MakesIterM (t : Tm) (tp : Option Addr) (tc : Nat) (rp : Option Addr) (rc : Nat) (p : Option Addr) (c : Nat) (w : World) (e : Ending) (w' : World) : Prop := ∃ Bt Bp, e = .returned (iterM Bt Bp) ∧ IterM w' t tp tc rp rc p c Bt Bp ∧ Below w.heap.size w w' ∧ w.heap.size ≤ Bt ∧ w.heap.size ≤ Bp
set_option maxRecDepth 100000 in
theorem tnM_any {C : Nat → Prop} {t : Tm} {tp : Option Addr} {tc : Nat} {rp : Option Addr} {rc : Nat} {p : Option Addr} {c : Nat} {w : World} (h : TM' w C t tp tc rp rc p c) : Calls Tryd.prog 65 #[tmV t tp tc rp rc p c] w (MakesIterM t tp tc rp rc p c w) := by
  have HT := Lib.hid (h.mono (C' := (· < w.heap.size)) (fun _ _ hl => hl))
  clear h
  go_enter Tryd.func65, Tryd.ntmps65
  go_wp2
  obtain ⟨wl, hwl, hsz, hbl, _, k1, k2⟩ := box_new3 w (tmC t tp tc rp rc p c) (tmC t tp tc rp rc p c) #[.func (.func 75) #[] #[]] 35 35 83
  rw [hwl]
  go_ret
  exact ⟨_, _, rfl, ⟨k1, k2, (HT.out.stays (.of_below hbl)).mono (fun z hz _ => by omega)⟩, hbl, by omega, by omega⟩
def maxdM : List (Tm × Nat) → Nat
  | [] => 0
  | e :: l => max e.2 (maxdM l)
theorem maxdM_append (a b : List (Tm × Nat)) : maxdM (a ++ b) = max (maxdM a) (maxdM b) := by
  induction a with
  | nil => simp [maxdM]
  | cons e a ih => simp only [List.cons_append, maxdM, ih]; omega
theorem maxdM_le {l : List (Tm × Nat)} {n : Nat} : maxdM l ≤ n ↔ ∀ e ∈ l, e.2 ≤ n := by
  induction l with
  | nil => simp [maxdM]
  | cons e l ih =>
    rw [List.forall_mem_cons, ← ih]
    simp only [maxdM]
    omega
mutual
theorem maxdM_walk : ∀ (t : Tm) (d : Nat), maxdM (walkM t d) + 1 = d + t.depth
  | .mk k a b n t r ts, d => by
    have h := maxdM_walkS ts d
    simp only [walkM, maxdM, Tm.depth]
    omega
theorem maxdM_walkS : ∀ (ts : List Tm) (d : Nat), max d (maxdM (walkSM ts (d + 1))) = d + depthM ts
  | [], d => by simp [walkSM, maxdM, depthM]
  | t :: ts, d => by
    have h1 := maxdM_walkS ts d
    have h2 := maxdM_walk t (d + 1)
    simp only [walkSM, maxdM_append, depthM]
    omega
end

end Go.Proofs.YtfeijijeohfpgaaDoor
namespace Go.Proofs.YtfeijijeohfpgaaDoor
open Go Go.RowKit
def nextL (k n : Int) : Int := if k = 10 then wrap64 (n + 1) else if k = 11 then wrap64 (n - 1) else n
mutual
def Tm.lvOk : Tm → Int → Prop
  | .mk k _ _ _ _ _ ts, n => (0 ≤ n ∧ n ≤ 2) ∧ lvOkS ts (nextL k n)
def lvOkS : List Tm → Int → Prop
  | [], _ => True
  | t :: ts, n => t.lvOk n ∧ lvOkS ts n
end
mutual
def Tm.made : Tm → Int → Prop
  | .mk k _ _ _ _ _ ts, n => ¬ (k = 11 ∧ n = 1) ∧ madeS ts (nextL k n)
def madeS : List Tm → Int → Prop
  | [], _ => True
  | t :: ts, n => t.made n ∧ madeS ts n
end
mutual
def Tm.high : Tm → Int → Int
  | .mk k _ _ _ _ _ ts, n => highS ts (nextL k n) n
def highS : List Tm → Int → Int → Int
  | [], _, m => m
  | t :: ts, n, m => highS ts n (max m (t.high n))
end
theorem Tm.lvOk_eq (t : Tm) (n : Int) : t.lvOk n ↔ (0 ≤ n ∧ n ≤ 2) ∧ lvOkS t.args (nextL t.kind n) := by cases t; simp only [Tm.lvOk, Tm.args, Tm.kind]
theorem Tm.made_eq (t : Tm) (n : Int) : t.made n ↔ ¬ (t.kind = 11 ∧ n = 1) ∧ madeS t.args (nextL t.kind n) := by cases t; simp only [Tm.made, Tm.args, Tm.kind]
theorem Tm.high_eq (t : Tm) (n : Int) : t.high n = highS t.args (nextL t.kind n) n := by cases t; simp only [Tm.high, Tm.args, Tm.kind]
theorem lvOkS_iff (ts : List Tm) (n : Int) : lvOkS ts n ↔ ∀ t ∈ ts, t.lvOk n := by
  induction ts with
  | nil => simp [lvOkS]
  | cons t ts ih => simp only [lvOkS, List.forall_mem_cons, ih]
theorem madeS_iff (ts : List Tm) (n : Int) : madeS ts n ↔ ∀ t ∈ ts, t.made n := by
  induction ts with
  | nil => simp [madeS]
  | cons t ts ih => simp only [madeS, List.forall_mem_cons, ih]
theorem highS_append (a b : List Tm) (n m : Int) : highS (a ++ b) n m = highS b n (highS a n m) := by
  induction a generalizing m with
  | nil => rfl
  | cons t a ih => simp only [List.cons_append, highS, ih]
theorem highS_take (ts : List Tm) (n m : Int) (k : Nat) (h : k < ts.length) : highS (ts.take (k + 1)) n m = max (highS (ts.take k) n m) (ts[k].high n) := by
  rw [tm_take_next h, highS_append]; simp [highS]
theorem take_all {P : Tm → Prop} {ts : List Tm} {k : Nat} (h : k < ts.length) : (∀ t ∈ ts.take (k + 1), P t) ↔ (∀ t ∈ ts.take k, P t) ∧ P ts[k] := by
  rw [tm_take_next h]
  simp only [List.mem_append, List.mem_singleton]
  constructor
  · intro h1; exact ⟨fun t ht => h1 t (Or.inl ht), h1 _ (Or.inr rfl)⟩
  · rintro ⟨h1, h2⟩ t (ht | rfl)
    · exact h1 t ht
    · exact h2

mutual
def walkL : Tm → Int → List (Tm × Int)
  | .mk k a b n t r ts, l => (.mk k a b n t r ts, l) :: walkLS ts (nextL k l)
def walkLS : List Tm → Int → List (Tm × Int)
  | [], _ => []
  | t :: ts, l => walkL t l ++ walkLS ts l
end
mutual
theorem walkL_length : ∀ (t : Tm) (l : Int), (walkL t l).length = t.nodes
  | .mk k a b n t r ts, l => by simp only [walkL, List.length_cons, walkLS_length ts, Tm.nodes]; omega
theorem walkLS_length : ∀ (ts : List Tm) (l : Int), (walkLS ts l).length = nodesM ts
  | [], l => rfl
  | t :: ts, l => by simp only [walkLS, List.length_append, walkLS_length ts, walkL_length t, nodesM]
end
mutual
theorem lvOk_walk : ∀ (t : Tm) (l : Int), t.lvOk l ↔ ∀ e ∈ walkL t l, 0 ≤ e.2 ∧ e.2 ≤ 2
  | .mk k a b n t r ts, l => by
    rw [Tm.lvOk, lvOk_walkS ts, walkL, List.forall_mem_cons]
theorem lvOk_walkS : ∀ (ts : List Tm) (l : Int), lvOkS ts l ↔ ∀ e ∈ walkLS ts l, 0 ≤ e.2 ∧ e.2 ≤ 2
  | [], l => by simp [lvOkS, walkLS]
  | t :: ts, l => by
    have h1 := lvOk_walk t l
    have h2 := lvOk_walkS ts l
    simp only [lvOkS, walkLS, List.forall_mem_append, h1, h2]
end
mutual
theorem made_walk : ∀ (t : Tm) (l : Int), t.made l ↔ ∀ e ∈ walkL t l, ¬ (e.1.kind = 11 ∧ e.2 = 1)
  | .mk k a b n t r ts, l => by
    rw [Tm.made, made_walkS ts, walkL, List.forall_mem_cons]
    simp only [Tm.kind]
theorem made_walkS : ∀ (ts : List Tm) (l : Int), madeS ts l ↔ ∀ e ∈ walkLS ts l, ¬ (e.1.kind = 11 ∧ e.2 = 1)
  | [], l => by simp [madeS, walkLS]
  | t :: ts, l => by
    have h1 := made_walk t l
    have h2 := made_walkS ts l
    simp only [madeS, walkLS, List.forall_mem_append, h1, h2]
end
def topL (m : Int) (l : List (Tm × Int)) : Int := l.foldl (fun m e => max m e.2) m
theorem topL_append (m : Int) (a b : List (Tm × Int)) : topL m (a ++ b) = topL (topL m a) b := by simp [topL]
theorem topL_snoc (m : Int) (a : List (Tm × Int)) (e : Tm × Int) : topL m (a ++ [e]) = max (topL m a) e.2 := by simp [topL]
mutual
theorem high_walk : ∀ (t : Tm) (l m : Int), max m (t.high l) = topL m (walkL t l)
  | .mk k a b n t r ts, l, m => by
    rw [Tm.high, walkL]
    show _ = topL (max m l) (walkLS ts (nextL k l))
    rw [← high_walkS ts, highS_max]
theorem high_walkS : ∀ (ts : List Tm) (l m : Int), highS ts l m = topL m (walkLS ts l)
  | [], l, m => rfl
  | t :: ts, l, m => by
    have h1 := high_walk t l m
    have h2 := high_walkS ts l (max m (t.high l))
    rw [highS, walkLS, topL_append, ← h1, h2]
theorem highS_max : ∀ (ts : List Tm) (l m n : Int), highS ts l (max m n) = max m (highS ts l n)
  | [], l, m, n => rfl
  | t :: ts, l, m, n => by
    have h2 := highS_max ts l m (max n (t.high l))
    rw [highS, highS, ← h2]
    congr 1
    omega
end
theorem high_top (t : Tm) (h : 0 ≤ t.high 0) : t.high 0 = topL 0 (walkL t 0) := by
  rw [← high_walk]; omega
mutual
theorem high_ge : ∀ (t : Tm) (l : Int), l ≤ t.high l
  | .mk k a b n t r ts, l => by rw [Tm.high]; exact highS_ge ts _ l
theorem highS_ge : ∀ (ts : List Tm) (l m : Int), m ≤ highS ts l m
  | [], l, m => Int.le_refl _
  | t :: ts, l, m => by
    have := highS_ge ts l (max m (t.high l))
    rw [highS]; omega
end
theorem high_0 (t : Tm) : t.high 0 = topL 0 (walkL t 0) := high_top t (high_ge t 0)
def pushL (st : List Int) (t : Tm) (d : Nat) : List Int := st.take d ++ [nextL t.kind (st.getD (d - 1) 0)]
def stkL (st : List Int) (pre : List (Tm × Nat)) : List Int := pre.foldl (fun st x => pushL st x.1 x.2) st
theorem stkL_snoc (st : List Int) (pre : List (Tm × Nat)) (x : Tm) (d : Nat) : stkL st (pre ++ [(x, d)]) = pushL (stkL st pre) x d := by simp [stkL]
def lvs : List (Tm × Nat) → List Int → List (Tm × Int)
  | [], _ => []
  | (t, d) :: r, st => (t, st.getD (d - 1) 0) :: lvs r (pushL st t d)
theorem lvs_append : ∀ (a b : List (Tm × Nat)) (st : List Int), lvs (a ++ b) st = lvs a st ++ lvs b (stkL st a)
  | [], b, st => rfl
  | (t, d) :: a, b, st => by
    rw [List.cons_append, lvs, lvs, lvs_append a b, List.cons_append]
    rfl
theorem lvs_snoc (pre : List (Tm × Nat)) (x : Tm) (d : Nat) (st : List Int) : lvs (pre ++ [(x, d)]) st = lvs pre st ++ [(x, (stkL st pre).getD (d - 1) 0)] := by
  rw [lvs_append]; rfl
theorem pushL_len {st : List Int} {t : Tm} {d : Nat} (h : d ≤ st.length) : (pushL st t d).length = d + 1 := by
  simp only [pushL, List.length_append, List.length_take, List.length_singleton]; omega
theorem getD_take {st : List Int} {d j : Nat} (h : j < d) : (st.take d).getD j 0 = st.getD j 0 := by
  simp only [List.getD_eq_getElem?_getD, List.getElem?_take, h, if_true]
mutual
theorem lvs_walk : ∀ (t : Tm) (d : Nat) (st : List Int) (r : List (Tm × Nat)), 1 ≤ d → d ≤ st.length →
    ∃ st', st'.take d = st.take d ∧ d ≤ st'.length ∧ lvs (walkM t d ++ r) st = walkL t (st.getD (d - 1) 0) ++ lvs r st'
  | .mk k a b n t x ts, d, st, r, h1, hd => by
    have hl := pushL_len (t := .mk k a b n t x ts) hd
    have hp : (pushL st (.mk k a b n t x ts) d).take d = st.take d := by
      unfold pushL
      rw [List.take_append_of_le_length (by rw [List.length_take]; omega), List.take_take, Nat.min_self]
    have hg : (pushL st (.mk k a b n t x ts) d).getD d 0 = nextL k (st.getD (d - 1) 0) := by
      unfold pushL
      rw [List.getD_eq_getElem?_getD, List.getElem?_append_right (by rw [List.length_take]; omega), List.length_take, Nat.min_eq_left hd, Nat.sub_self]
      rfl
    obtain ⟨st', e1, e2, e3⟩ := lvs_walkS ts (d + 1) (pushL st (.mk k a b n t x ts) d) r (by omega) (by omega)
    refine ⟨st', ?_, by omega, ?_⟩
    · have := congrArg (List.take d) e1
      rw [List.take_take, List.take_take, Nat.min_eq_left (by omega)] at this
      rw [this, hp]
    · rw [walkM, walkL, List.cons_append, lvs, e3, Nat.add_sub_cancel, hg, List.cons_append]
theorem lvs_walkS : ∀ (ts : List Tm) (d : Nat) (st : List Int) (r : List (Tm × Nat)), 1 ≤ d → d ≤ st.length →
    ∃ st', st'.take d = st.take d ∧ d ≤ st'.length ∧ lvs (walkSM ts d ++ r) st = walkLS ts (st.getD (d - 1) 0) ++ lvs r st'
  | [], d, st, r, h1, hd => ⟨st, rfl, hd, by simp only [walkSM, walkLS, List.nil_append]⟩
  | t :: ts, d, st, r, h1, hd => by
    obtain ⟨st1, e1, e2, e3⟩ := lvs_walk t d st (walkSM ts d ++ r) h1 hd
    obtain ⟨st2, f1, f2, f3⟩ := lvs_walkS ts d st1 r h1 e2
    have hg : st1.getD (d - 1) 0 = st.getD (d - 1) 0 := by
      rw [← getD_take (d := d) (by omega), e1, getD_take (by omega)]
    refine ⟨st2, f1.trans e1, f2, ?_⟩
    rw [walkSM, walkLS, List.append_assoc, e3, f3, List.append_assoc, hg]
end
theorem lvs_all (t : Tm) (l : Int) : lvs (walkM t 1) [l] = walkL t l := by
  obtain ⟨st', _, _, h⟩ := lvs_walk t 1 [l] [] (Nat.le_refl _) (Nat.le_refl _)
  rw [List.append_nil] at h
  rw [h]
  simp [lvs]
def OkL : List (Tm × Nat) → Nat → Prop
  | [], _ => True
  | x :: r, m => 1 ≤ x.2 ∧ x.2 ≤ m ∧ OkL r (x.2 + 1)
mutual
theorem okL_walk : ∀ (t : Tm) (d m : Nat) (r : List (Tm × Nat)), 1 ≤ d → d ≤ m → (∀ m', d ≤ m' → OkL r m') → OkL (walkM t d ++ r) m
  | .mk k a b n t x ts, d, m, r, h1, hd, hr => by
    rw [walkM, List.cons_append]
    exact ⟨h1, hd, okL_walkS ts (d + 1) (d + 1) r (by omega) (Nat.le_refl _) (fun m' h => hr m' (by omega))⟩
theorem okL_walkS : ∀ (ts : List Tm) (d m : Nat) (r : List (Tm × Nat)), 1 ≤ d → d ≤ m → (∀ m', d ≤ m' → OkL r m') → OkL (walkSM ts d ++ r) m
  | [], d, m, r, h1, hd, hr => by rw [walkSM, List.nil_append]; exact hr m hd
  | t :: ts, d, m, r, h1, hd, hr => by
    rw [walkSM, List.append_assoc]
    exact okL_walk t d m _ h1 hd (fun m' h => okL_walkS ts d m' r h1 h hr)
end
theorem okL_at : ∀ (pre : List (Tm × Nat)) (x : Tm) (d : Nat) (r : List (Tm × Nat)) (st : List Int), OkL (pre ++ (x, d) :: r) st.length → 1 ≤ d ∧ d ≤ (stkL st pre).length
  | [], x, d, r, st, h => ⟨h.1, h.2.1⟩
  | (y, e) :: pre, x, d, r, st, h => by
    have h2 := h.2.2
    have hl := pushL_len (t := y) (d := e) (show e ≤ st.length from h.2.1)
    have h3 : OkL (pre ++ (x, d) :: r) (pushL st y e).length := by rw [hl]; exact h2
    exact okL_at pre x d r _ h3
theorem okL_pre {t : Tm} {l : Int} {pre : List (Tm × Nat)} {x : Tm} {d : Nat} (h : pre ++ [(x, d)] <+: walkM t 1) : 1 ≤ d ∧ d ≤ (stkL [l] pre).length := by
  obtain ⟨r, hr⟩ := h
  have h1 := okL_walk t 1 1 [] (Nat.le_refl _) (Nat.le_refl _) (fun _ _ => trivial)
  rw [List.append_nil, ← hr, List.append_assoc] at h1
  exact okL_at pre x d r [l] h1
theorem lvs_pre {t : Tm} {l : Int} {pre : List (Tm × Nat)} (h : pre <+: walkM t 1) : lvs pre [l] <+: walkL t l := by
  obtain ⟨r, hr⟩ := h
  rw [← lvs_all, ← hr, lvs_append]
  exact List.prefix_append _ _
theorem depth_pre {t : Tm} {x : Tm} {d : Nat} (h : (x, d) ∈ walkM t 1) (hn : t.nodes ≤ 2097153) : d ≤ 2097153 := by
  have h1 := maxdM_walk t 1
  have h2 := (maxdM_le (l := walkM t 1) (n := t.depth)).1 (by omega) _ h
  have h3 := t.depth_nodes
  simp only at h2
  omega
end Go.Proofs.YtfeijijeohfpgaaDoor
namespace Go.Proofs.YtfeijijeohfpgaaDoor
open Go Go.RowKit

theorem tmod_cases (n : Int) : n.tmod 10007 = n % 10007 ∧ 0 ≤ n ∨ n.tmod 10007 = -((-n) % 10007) ∧ n < 0 := by
  by_cases h : 0 ≤ n
  · exact Or.inl ⟨Int.tmod_eq_emod_of_nonneg h, h⟩
  · refine Or.inr ⟨?_, by omega⟩
    have e : n = -(-n) := by omega
    rw [e, Int.neg_tmod, Int.tmod_eq_emod_of_nonneg (by omega)]
    simp
theorem red_I (n : Int) : (wrap64 (n.tmod 10007 + 10007)).tmod 10007 = n % 10007 := by
  have hw : wrap64 (n.tmod 10007 + 10007) = n.tmod 10007 + 10007 := by
    rcases tmod_cases n with ⟨h, _⟩ | ⟨h, _⟩ <;> · rw [h]; unfold wrap64; omega
  rw [hw, Int.tmod_eq_emod_of_nonneg (by rcases tmod_cases n with ⟨h, _⟩ | ⟨h, _⟩ <;> omega)]
  rcases tmod_cases n with ⟨h, _⟩ | ⟨h, _⟩ <;> omega
theorem ret_int {a b : Int} (h : a = b) : Ending.returned (.int .i64 a) = Ending.returned (.int .i64 b) := by rw [h]

set_option maxHeartbeats 400000 in
theorem redI_any (n : Int) (w : World) :
    Calls Tryd.prog 68 #[.int .i64 n] w fun e w' => e = .returned (.int .i64 (n % 10007)) ∧ w' = w := by
  go_enter Tryd.func68, Tryd.ntmps68
  go_wp2
  go_ret
  exact ⟨ret_int (red_I n), rfl⟩

end Go.Proofs.YtfeijijeohfpgaaDoor
namespace Go.Proofs.YtfeijijeohfpgaaDoor
open Go Go.RowKit

theorem in_any (n lo hi : Int) (w : World) : Calls Tryd.prog 53 #[.int .i64 n, .int .i64 lo, .int .i64 hi] w fun e w' => e = .returned (.bool (decide (lo ≤ n ∧ n ≤ hi))) ∧ w' = w := by
  obtain ⟨r, hr⟩ : ∃ r, r = decide (lo ≤ n ∧ n ≤ hi) := ⟨_, rfl⟩
  rw [← hr]
  by_cases h : lo ≤ n
  · have e : decide (n ≤ hi) = r := by rw [hr]; simp [h]
    have t : decide (lo ≤ n) = true := by simpa using h
    have E := Lib.hid e
    clear e hr
    go_enter Tryd.func53, Tryd.ntmps53
    go_wp2
    go_ret
    exact ⟨by rw [← E.out]; rfl, rfl⟩
  · have e : false = r := by rw [hr]; simp [h]
    have t : decide (lo ≤ n) = false := by simpa using h
    subst e
    clear hr
    go_enter Tryd.func53, Tryd.ntmps53
    go_wp2
    go_ret
    exact ⟨rfl, rfl⟩

end Go.Proofs.YtfeijijeohfpgaaDoor
namespace Go.Proofs.YtfeijijeohfpgaaDoor
open Go Go.RowKit
def okAt (s : ByteArray) (k : Nat) : Prop := ∀ h : k < s.size, (97 ≤ (s[k]'h).toNat ∧ (s[k]'h).toNat ≤ 122) ∨ (1 ≤ k ∧ 48 ≤ (s[k]'h).toNat ∧ (s[k]'h).toNat ≤ 57)
def Res (s : ByteArray) : Prop := s.toList = [105, 102] ∨ s.toList = [108, 101, 116] ∨ s.toList = [108, 105, 102, 116] ∨ s.toList = [114, 101, 99] ∨ s.toList = [114, 117, 110]
structure Nm (s : ByteArray) : Prop where
  ok : ∀ k, okAt s k
  lo : 1 ≤ s.size
  hi : s.size ≤ 4
  free : ¬ Res s
def Tells (p : Prop) (w : World) (e : Ending) (w' : World) : Prop := ∃ r : Bool, (r = true ↔ p) ∧ e = .returned (.bool r) ∧ Below w.heap.size w w'
theorem tells_no {p : Prop} (h : ¬ p) : (false = true ↔ p) := ⟨fun hc => (by cases hc), fun hp => absurd hp h⟩
theorem tells_yes {p : Prop} (h : p) : (true = true ↔ p) := ⟨fun _ => h, fun _ => rfl⟩
set_option maxHeartbeats 400000 in
theorem res_any (s : ByteArray) (w : World) : Calls Tryd.prog 87 #[.string s] w (Tells (Res s) w) := by
  go_enter Tryd.func87, Tryd.ntmps87
  go_wp2
  all_goals
    go_ret
    first
    | exact ⟨true, tells_yes (by unfold Res; simp_all), rfl, Below.refl _ _⟩
    | exact ⟨false, tells_no (by unfold Res; simp_all), rfl, Below.refl _ _⟩

theorem res_0 {s : ByteArray} (h : s.toList = [105, 102]) : (s.toList == [105, 102]) = true ∧ (s.toList == [108, 101, 116]) = false ∧ (s.toList == [108, 105, 102, 116]) = false ∧ (s.toList == [114, 101, 99]) = false ∧ (s.toList == [114, 117, 110]) = false := by rw [h]; exact ⟨rfl, rfl, rfl, rfl, rfl⟩
theorem res_1 {s : ByteArray} (h : s.toList = [108, 101, 116]) : (s.toList == [105, 102]) = false ∧ (s.toList == [108, 101, 116]) = true ∧ (s.toList == [108, 105, 102, 116]) = false ∧ (s.toList == [114, 101, 99]) = false ∧ (s.toList == [114, 117, 110]) = false := by rw [h]; exact ⟨rfl, rfl, rfl, rfl, rfl⟩
theorem res_2 {s : ByteArray} (h : s.toList = [108, 105, 102, 116]) : (s.toList == [105, 102]) = false ∧ (s.toList == [108, 101, 116]) = false ∧ (s.toList == [108, 105, 102, 116]) = true ∧ (s.toList == [114, 101, 99]) = false ∧ (s.toList == [114, 117, 110]) = false := by rw [h]; exact ⟨rfl, rfl, rfl, rfl, rfl⟩
theorem res_3 {s : ByteArray} (h : s.toList = [114, 101, 99]) : (s.toList == [105, 102]) = false ∧ (s.toList == [108, 101, 116]) = false ∧ (s.toList == [108, 105, 102, 116]) = false ∧ (s.toList == [114, 101, 99]) = true ∧ (s.toList == [114, 117, 110]) = false := by rw [h]; exact ⟨rfl, rfl, rfl, rfl, rfl⟩
theorem res_4 {s : ByteArray} (h : s.toList = [114, 117, 110]) : (s.toList == [105, 102]) = false ∧ (s.toList == [108, 101, 116]) = false ∧ (s.toList == [108, 105, 102, 116]) = false ∧ (s.toList == [114, 101, 99]) = false ∧ (s.toList == [114, 117, 110]) = true := by rw [h]; exact ⟨rfl, rfl, rfl, rfl, rfl⟩
theorem res_no {s : ByteArray} (h : ¬ Res s) : (s.toList == [105, 102]) = false ∧ (s.toList == [108, 101, 116]) = false ∧ (s.toList == [108, 105, 102, 116]) = false ∧ (s.toList == [114, 101, 99]) = false ∧ (s.toList == [114, 117, 110]) = false := by
  unfold Res at h
  simp only [not_or] at h
  exact ⟨by simpa using h.1, by simpa using h.2.1, by simpa using h.2.2.1, by simpa using h.2.2.2.1, by simpa using h.2.2.2.2⟩
theorem at_more {k : Nat} (h : 1 ≤ k) : ((k : Int) == 0) = false := by rw [beq_eq_false_iff_ne]; omega
theorem ok_letter {s : ByteArray} {k : Nat} {hk : k < s.size} (h1 : 97 ≤ (s[k]'hk).toNat) (h2 : (s[k]'hk).toNat ≤ 122) : okAt s k := fun _ => Or.inl ⟨h1, h2⟩
theorem ok_digit {s : ByteArray} {k : Nat} {hk : k < s.size} (h0 : 1 ≤ k) (h1 : 48 ≤ (s[k]'hk).toNat) (h2 : (s[k]'hk).toNat ≤ 57) : okAt s k := fun _ => Or.inr ⟨h0, h1, h2⟩
theorem ok_bad {s : ByteArray} {k : Nat} {hk : k < s.size} (h1 : (s[k]'hk).toNat < 97 ∨ 122 < (s[k]'hk).toNat) (h2 : k = 0 ∨ (s[k]'hk).toNat < 48 ∨ 57 < (s[k]'hk).toNat) : ¬ Nm s := fun h => by
  have := h.ok k hk
  omega
theorem ok_next {s : ByteArray} {k : Nat} (h : ∀ j, j < k → okAt s j) (h1 : okAt s k) : ∀ j, j < k + 1 → okAt s j := fun j hj => by
  by_cases e : j = k
  · rw [e]; exact h1
  · exact h j (by omega)
theorem ok_end {s : ByteArray} {k : Nat} (h : ∀ j, j < k → okAt s j) (hk : s.size ≤ k) : ∀ j, okAt s j := fun j => by
  by_cases e : j < k
  · exact h j e
  · exact fun hj => absurd hj (by omega)

set_option maxRecDepth 100000 in
set_option maxHeartbeats 1000000 in
theorem nmS_any (s : ByteArray) (w : World) (hs : s.size ≤ 9223372036854775807) : Calls Tryd.prog 105 #[.string s] w (Tells (Nm s) w) := by
  go_enter Tryd.func105, Tryd.ntmps105
  go_wp2_with fail
  go_loop [3] (fun i => ∃ k : Nat, k ≤ s.size ∧ i = .int .i64 k ∧ Hid (∀ j, j < k → okAt s j)) (fun i => s.size - (intOf i).toNat)
  case atStart => exact ⟨0, Nat.zero_le _, rfl, Lib.hid (fun j hj => absurd hj (Nat.not_lt_zero j))⟩
  case round =>
    obtain ⟨k, hk, rfl, HK⟩ := hrel
    by_cases hlk : k < s.size
    · by_cases hlet : 97 ≤ s[k].toNat ∧ s[k].toNat ≤ 122
      · obtain ⟨l1, l2⟩ := hlet
        have HN := Lib.hid (ok_next HK.out (ok_letter l1 l2))
        go_wp2_with fail
        go_round
        case rel => exact ⟨k + 1, by omega, by go_num, HN⟩
        case measure => simp [intOf]; omega
      · by_cases hdig : 1 ≤ k ∧ 48 ≤ s[k].toNat ∧ s[k].toNat ≤ 57
        · obtain ⟨d0, d1, d2⟩ := hdig
          have HN := Lib.hid (ok_next HK.out (ok_digit d0 d1 d2))
          have t := at_more d0
          clear hlet
          go_wp2_with fail
          go_round
          case rel => exact ⟨k + 1, by omega, by go_num, HN⟩
          case measure => simp [intOf]; omega
        · have HN := Lib.hid (ok_bad (s := s) (k := k) (hk := hlk) (by omega) (by omega))
          rcases (show s[k].toNat < 97 ∨ 122 < s[k].toNat by omega) with b1 | b1
          all_goals rcases (show k = 0 ∨ (1 ≤ k ∧ s[k].toNat < 48) ∨ (1 ≤ k ∧ 57 < s[k].toNat) by omega) with b2 | ⟨b2, b3⟩ | ⟨b2, b3⟩
          all_goals clear hdig hlet
          · subst b2
            have t2 : decide ((97 : Int) ≤ (s[0].toNat : Int)) = false := by simp; omega
            go_wp2_with fail
            go_ret
            exact ⟨false, tells_no HN.out, rfl, Below.refl _ _⟩
          · have t := at_more b2
            have t2 : decide ((97 : Int) ≤ (s[k].toNat : Int)) = false := by simp; omega
            go_wp2_with fail
            go_ret
            exact ⟨false, tells_no HN.out, rfl, Below.refl _ _⟩
          · have t := at_more b2
            have t2 : decide ((97 : Int) ≤ (s[k].toNat : Int)) = false := by simp; omega
            go_wp2_with fail
            go_ret
            exact ⟨false, tells_no HN.out, rfl, Below.refl _ _⟩
          · subst b2
            have t2 : decide ((s[0].toNat : Int) ≤ 122) = false := by simp; omega
            go_wp2_with fail
            go_ret
            exact ⟨false, tells_no HN.out, rfl, Below.refl _ _⟩
          · exfalso; omega
          · have t := at_more b2
            have t2 : decide ((s[k].toNat : Int) ≤ 122) = false := by simp; omega
            go_wp2_with fail
            go_ret
            exact ⟨false, tells_no HN.out, rfl, Below.refl _ _⟩
    · obtain rfl : k = s.size := by omega
      have HN := Lib.hid (ok_end HK.out (Nat.le_refl _))
      go_wp2_with fail
      refine (in_any _ _ _ _).mono ?_
      rintro e w1 ⟨rfl, rfl⟩
      by_cases hsz : 1 ≤ s.size ∧ s.size ≤ 4
      · have t : decide (1 ≤ (s.size : Int) ∧ (s.size : Int) ≤ 4) = true := decide_eq_true (by omega)
        rw [t]
        clear t
        by_cases hres : Res s
        · have HX := Lib.hid (show ¬ Nm s from fun h => h.free hres)
          rcases hres with h | h | h | h | h
          · obtain ⟨t1, t2, t3, t4, t5⟩ := res_0 h
            clear h
            go_wp2_with fail
            go_ret
            exact ⟨false, tells_no HX.out, rfl, Below.refl _ _⟩
          · obtain ⟨t1, t2, t3, t4, t5⟩ := res_1 h
            clear h
            go_wp2_with fail
            go_ret
            exact ⟨false, tells_no HX.out, rfl, Below.refl _ _⟩
          · obtain ⟨t1, t2, t3, t4, t5⟩ := res_2 h
            clear h
            go_wp2_with fail
            go_ret
            exact ⟨false, tells_no HX.out, rfl, Below.refl _ _⟩
          · obtain ⟨t1, t2, t3, t4, t5⟩ := res_3 h
            clear h
            go_wp2_with fail
            go_ret
            exact ⟨false, tells_no HX.out, rfl, Below.refl _ _⟩
          · obtain ⟨t1, t2, t3, t4, t5⟩ := res_4 h
            clear h
            go_wp2_with fail
            go_ret
            exact ⟨false, tells_no HX.out, rfl, Below.refl _ _⟩
        · have HX := Lib.hid (show Nm s from ⟨HN.out, hsz.1, hsz.2, hres⟩)
          obtain ⟨t1, t2, t3, t4, t5⟩ := res_no hres
          clear hres
          go_wp2_with fail
          go_ret
          exact ⟨true, tells_yes HX.out, rfl, Below.refl _ _⟩
      · have t : decide (1 ≤ (s.size : Int) ∧ (s.size : Int) ≤ 4) = false := decide_eq_false (by omega)
        rw [t]
        clear t
        have HZ := Lib.hid (show ¬ Nm s from fun h => hsz ⟨h.lo, h.hi⟩)
        clear hsz
        go_wp2_with fail
        go_ret
        exact ⟨false, tells_no HZ.out, rfl, Below.refl _ _⟩
end Go.Proofs.YtfeijijeohfpgaaDoor
