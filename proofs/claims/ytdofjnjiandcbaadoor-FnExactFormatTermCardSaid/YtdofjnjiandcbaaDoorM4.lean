/-
  Several texts of the proof in one (each says below what it holds): TxI Frame FrameV.
-/
import Derived.Test.YtdofjnjiandcbaaDoorM3
import Derived.RegionTactic
import Derived.ChangeAlike
import Derived.ProofKit
import Derived.OpenShut
import Derived.Carry
import Derived.Below
import Derived.OpenVars
import Derived.ChangeVars
/- TxI: The contract of the program's TermText: the loop over its stack. -/
namespace Go.Proofs.YtdofjnjiandcbaaDoor
open Go Go.RowKit Go.Shelf

theorem kbN {w W w1 : World} {p0 p1 p2 p3 p4 p5 p6 p7 p8 : Addr} {v0 v1 v2 v3 v4 v5 v6 v7 v8 : Value} (hb : Below W.heap.size W w1) (h : Below w.heap.size w W ∧ W.cell? p0 = some v0 ∧ W.cell? p1 = some v1 ∧ W.cell? p2 = some v2 ∧ W.cell? p3 = some v3 ∧ W.cell? p4 = some v4 ∧ W.cell? p5 = some v5 ∧ W.cell? p6 = some v6 ∧ W.cell? p7 = some v7 ∧ W.cell? p8 = some v8) : Below w.heap.size w w1 ∧ w1.cell? p0 = some v0 ∧ w1.cell? p1 = some v1 ∧ w1.cell? p2 = some v2 ∧ w1.cell? p3 = some v3 ∧ w1.cell? p4 = some v4 ∧ w1.cell? p5 = some v5 ∧ w1.cell? p6 = some v6 ∧ w1.cell? p7 = some v7 ∧ w1.cell? p8 = some v8 := by
  obtain ⟨h, h0, h1, h2, h3, h4, h5, h6, h7, h8⟩ := h
  exact ⟨h.trans (hb.mono h.size), kb hb h0, kb hb h1, kb hb h2, kb hb h3, kb hb h4, kb hb h5, kb hb h6, kb hb h7, kb hb h8⟩
theorem kbA {w W w1 : World} {b o0 o1 o2 o3 o4 o5 o6 o7 o8 : Nat} {v0 v1 v2 v3 v4 v5 v6 v7 v8 : Value} {e : TypeId} {size n c g cap g0 : Nat} {xs cs : List Value} (hA : Appd W w1 w.heap.size e size (.slice (some ⟨g0, 0, none⟩) n c) n xs cs g cap) (hne : b ≠ g0) (h : Below w.heap.size w W ∧ W.cell? ⟨b, o0, none⟩ = some v0 ∧ W.cell? ⟨b, o1, none⟩ = some v1 ∧ W.cell? ⟨b, o2, none⟩ = some v2 ∧ W.cell? ⟨b, o3, none⟩ = some v3 ∧ W.cell? ⟨b, o4, none⟩ = some v4 ∧ W.cell? ⟨b, o5, none⟩ = some v5 ∧ W.cell? ⟨b, o6, none⟩ = some v6 ∧ W.cell? ⟨b, o7, none⟩ = some v7 ∧ W.cell? ⟨b, o8, none⟩ = some v8) : Below w.heap.size w w1 ∧ w1.cell? ⟨b, o0, none⟩ = some v0 ∧ w1.cell? ⟨b, o1, none⟩ = some v1 ∧ w1.cell? ⟨b, o2, none⟩ = some v2 ∧ w1.cell? ⟨b, o3, none⟩ = some v3 ∧ w1.cell? ⟨b, o4, none⟩ = some v4 ∧ w1.cell? ⟨b, o5, none⟩ = some v5 ∧ w1.cell? ⟨b, o6, none⟩ = some v6 ∧ w1.cell? ⟨b, o7, none⟩ = some v7 ∧ w1.cell? ⟨b, o8, none⟩ = some v8 := by
  have k : (Value.slice (some ⟨g0, 0, none⟩) n c).ownBlock ≠ some b := by simp [Value.ownBlock]; omega
  obtain ⟨h, h0, h1, h2, h3, h4, h5, h6, h7, h8⟩ := h
  exact ⟨h.trans hA.below, keepApp hA h0 k, keepApp hA h1 k, keepApp hA h2 k, keepApp hA h3 k, keepApp hA h4 k, keepApp hA h5 k, keepApp hA h6 k, keepApp hA h7 k, keepApp hA h8 k⟩
theorem kb9 {W w1 : World} {b : Nat} {t : Tm} {tp : Option Addr} {tc : Nat} {rp : Option Addr} {rc : Nat} {p : Option Addr} {c : Nat} (hb : Below W.heap.size W w1) (h : Bx9 W b t tp tc rp rc p c) : Bx9 w1 b t tp tc rp rc p c := h.keep hb
theorem sgN_len (t : Tm) : (sg t).length ≤ 4 := by
  have := sg_tail t
  rw [List.length_tail] at this
  omega
theorem isT_kind {t : Tm} (h : t.IsT) : 1 ≤ t.kind ∧ t.kind ≤ 13 := by
  cases shape h <;> simp [Tm.kind]
theorem isT_n {t : Tm} (h : t.IsT) : -9223372036854775808 ≤ t.n ∧ t.n ≤ 9223372036854775807 := by
  cases shape h <;> simp only [Tm.n] <;> omega
/-- The signs of a node, at a term of the forms. -/
theorem sgAt {C : Nat → Prop} {t : Tm} {tp : Option Addr} {tc : Nat} {rp : Option Addr} {rc : Nat} {p : Option Addr} {c : Nat} {w : World} (hT : TM' w C t tp tc rp rc p c) (hI : t.IsT) (hn : t.wt ≤ 2097152) (hp : Pow w) (W : World) (hW : Below w.heap.size w W) :
    Calls Tryd.prog 19 #[tmV t tp tc rp rc p c] W (Sgs (sg t) W) := by
  have hwe := t.wt_eq
  have hT' := hT.stays (.of_below hW)
  obtain ⟨n0, n1⟩ := isT_n hI
  exact sg_any p t.args.length c W (isT_kind hI) hT'.ty hT'.res (by omega) (by omega) (by omega) (by omega) (fun _ W2 hW2 => implFmt_any t.n n0 n1 W2 ((hp.below hW).below hW2))

set_option maxRecDepth 100000 in
set_option maxHeartbeats 8000000 in
/-- A TERM OF THE FORMS IS WRITTEN. -/
theorem txI_yes {C : Nat → Prop} {t : Tm} {v : Value} {w : World} (hka : KA w) (hp : Pow w) (h : TM w C t v) (hn : t.wt ≤ 2097152) (hI : t.IsT) :
    Calls Tryd.prog 8 #[v] w (StrRet t.text w) := by
  obtain ⟨i0, hi, hz0, hz1, hz2⟩ := info_parts infoBg
  have HTM := Lib.hid h
  obtain ⟨tp, tc, rp, rc, p, c, rfl, hT⟩ := h
  have HT := Lib.hid hT
  have HX := Lib.hid (Bx9.new w t tp tc rp rc p c 35)
  have HB := Lib.hid (al_below w (.cells (tmC t tp tc rp rc p c) 35))
  obtain ⟨s1, s2, s3⟩ := shape_sg (shape hI)
  have HS1 := Lib.hid s1
  have HS2 := Lib.hid s2
  have HS3 := Lib.hid s3
  have HKA := Lib.hid hka
  have HP := Lib.hid hp
  have HI := Lib.hid hI
  have HLEN := Lib.hid (textM_le t hI)
  have HN := Lib.hid hn
  clear hT s1 s2 s3 hka hp hI
  go_enter Tryd.func8, Tryd.ntmps8
  go_wp2_with fail
  refine (isTermI_any (HKA.out.below HB.out) (HTM.out.keep HB.out) hn).mono ?_
  rintro e w1 ⟨r, hr, rfl, hb1⟩
  obtain rfl : r = true := hr.2 HI.out
  have HB1 := Lib.hid (HB.out.trans (hb1.mono HB.out.size))
  have HX1 := Lib.hid (HX.out.keep hb1)
  clear hb1 hr hn
  obtain ⟨g0, g1, g2, g3, g4, g5, g6, g7, g8⟩ := HX1.out
  have HBU := Lib.hid (Bu.fresh w1)
  have hbA := al_below w1 (.cells #[.pointer none, .slice none 0 0] 47)
  have HBA := Lib.hid hbA
  obtain ⟨x0, x1, x2, x3, x4, x5, x6, x7, x8⟩ := HX1.out.keep hbA
  have HSG := Lib.hid (sgAt HT.out HI.out HN.out HP.out)
  clear hbA
  go_wp2_with fail
  go_region_held3 (fun w' => Below w.heap.size w w' ∧ w'.cell? ⟨w.heap.size, 0, none⟩ = some (.int .i64 t.kind) ∧ w'.cell? ⟨w.heap.size, 1, none⟩ = some (.string t.name) ∧ w'.cell? ⟨w.heap.size, 2, none⟩ = some (.string t.other) ∧ w'.cell? ⟨w.heap.size, 3, none⟩ = some (.int .i64 t.n) ∧ w'.cell? ⟨w.heap.size, 4, none⟩ = some (.int .i64 t.ty.kind) ∧ w'.cell? ⟨w.heap.size, 5, none⟩ = some (.slice tp t.ty.args.length tc) ∧ w'.cell? ⟨w.heap.size, 6, none⟩ = some (.int .i64 t.res.kind) ∧ w'.cell? ⟨w.heap.size, 7, none⟩ = some (.slice rp t.res.args.length rc) ∧ w'.cell? ⟨w.heap.size, 8, none⟩ = some (.slice p t.args.length c))
    (first
      | (go_keep; done)
      | exact ⟨HB1.out.trans ((HBA.out.drew).mono HB1.out.size), x0, x1, x2, x3, x4, x5, x6, x7, x8⟩
      | with_reducible exact kbN hb2 (by assumption)
      | with_reducible exact kbN (al_below _ _) (by assumption)
      | fail)
    (first
      | (go_at_call 19; refine (HSG.out _ (And.left (by assumption))).mono ?_; rintro e w2 ⟨sb, rfl, hsb, hsc, hb2⟩)
      | fail)
  have hbw2 : Below w.heap.size w w2 := by
    have h1 := HB1.out.trans ((HBA.out.drew).mono HB1.out.size)
    exact h1.trans (hb2.mono h1.size)
  have hs0 : TxS w w1.heap.size [⟨sg t, t.args, sb, 0, (sg t).length, .slice p t.args.length c⟩] w2.heap.size 1 (.slice none 0 0) [] (w2.alloc (.cells #[.slice (some ⟨sb, 0, none⟩) (sg t).length (sg t).length, .slice p t.args.length c] 51)) := by
    have hsb' : w1.heap.size + 1 ≤ sb := by simpa using hsb
    have hlt2 : sb < w2.heap.size := (Array.getElem?_eq_some_iff.1 hsc).1
    have hz2 : w1.heap.size + 1 ≤ w2.heap.size := by omega
    have hz1 := HB1.out.size
    have hbn := al_below w2 (.cells #[.slice (some ⟨sb, 0, none⟩) (sg t).length (sg t).length, .slice p t.args.length c] 51)
    have hwe := t.wt_eq
    have hwn := HN.out
    refine ⟨hbw2.trans (hbn.mono hbw2.size), ⟨hz1, ⟨_, Or.inl rfl, ?_⟩, World.ownsRow_nil _ _ _ _, by simp [Value.ownBlock]⟩, ?_, by omega, by simp [Value.ownBlock], fun x hx => ?_⟩
    · obtain ⟨q, hq, hq2⟩ := HBU.out.blk
      have h1 : ((w1.alloc (.cells #[.pointer none, .slice none 0 0] 47)).drew).heap[w1.heap.size]? = some (.cells #[.pointer none, .slice none 0 0] 47 (0, 0)) := blk_new w1 _
      exact (hbn.block _ (by omega)).trans ((hb2.block _ (by simp)).trans h1)
    · exact World.ownsRow_lit (base := w.heap.size) (e := 51) (size := 2) w2 #[.slice (some ⟨sb, 0, none⟩) (sg t).length (sg t).length, .slice p t.args.length c] 1 (by omega) (by unfold maxLen; omega) rfl
    · simp only [List.mem_singleton] at hx
      subst hx
      exact Itm.new ((hbn.block _ hlt2).trans hsc) HS2.out (sgN_len t) (by omega) (by omega) (by simp [Value.ownBlock]) (by omega) ((HT.out.args.mono (fun _ _ hl => hl))) HS3.out (by omega)
  rename_i hH
  clear hH hb2 hsc hsb x0 x1 x2 x3 x4 x5 x6 x7 x8 g0 g1 g2 g3 g4 g5 g6 g7 g8
  have HS0 := Lib.hid hs0
  clear hs0 hbw2
  go_wp2_with fail
  go_loopg [4] (1 + 2 * nodesM t.args) (fun gk v wr => ∃ (st : List It) (g cap : Nat) (vb : Value) (l : List UInt8), v = .slice (some ⟨g, 0, none⟩) st.length cap ∧ gk = iload st ∧ iload st ≤ 1 + 2 * nodesM t.args ∧ TxS w w1.heap.size st g cap vb l wr ∧ l ++ outL st = t.text)
  case atStart => exact ⟨_, w2.heap.size, 1, _, [], rfl, by simp [iload], by simp [iload], HS0.out, by simp [outL, HS1.out]⟩
  case round =>
    obtain ⟨st, g, cap, vb, l, rfl, rfl, hld, hS, htx⟩ := hrel
    have HLD := Lib.hid hld
    clear hld
    rename World => wo
    rcases snoc_cases st with rfl | ⟨st0, ⟨ss, ts, bb, ii, cc, vv⟩, rfl⟩
    · have hl : l = t.text := by rw [← htx]; simp [outL]
      subst hl
      have HC := Lib.hid (bstr_any _ _ _ _ wo hS.bu hS.below.size)
      have HBL := Lib.hid hS.below
      clear hS htx
      go_wp2_with fail
      refine HC.out.mono ?_
      rintro e w3 ⟨rfl, hb3⟩
      have HB3 := Lib.hid (HBL.out.trans hb3)
      clear hb3
      go_wp2_with fail
      go_ret
      exact ⟨rfl, HB3.out⟩
    · have i := hS.its _ (List.mem_append_right _ (List.mem_singleton_self _))
      have ilen := i.len
      have icap := i.cap
      simp only at ilen icap
      obtain ⟨s, ss', rfl⟩ := List.exists_cons_of_length_pos (l := ss) (by omega)
      have c0 := i.cells 0 s rfl
      simp only [Nat.add_zero] at c0
      have hown := hS.own
      rw [List.length_append, List.length_singleton] at hown
      obtain ⟨hcap1, hcap2, hg1, hg2⟩ := row_cap hown
      have k0 := (hown.cellAt (st0.length * 2) (by omega)).trans (icells_last st0 _).1
      have k1 := (hown.cellAt (st0.length * 2 + 1) (by omega)).trans (icells_last st0 _).2
      simp only [It.sv, List.length_cons] at k0 k1
      have hlt := HLEN.out
      have hwn := HN.out
      have hlen : l.length + s.length ≤ 140737488355328 := by
        have := congrArg List.length htx
        rw [outL_snoc] at this
        have h2 : s.length ≤ (wv (s :: ss') ts).length := by
          cases ts with
          | nil => exact Nat.le_refl _
          | cons y ys => rw [wv, List.length_append]; omega
        simp only [List.length_append] at this
        omega
      have HC := Lib.hid (wstr_any w.heap.size w1.heap.size vb l ⟨s.toArray⟩ wo hS.bu (by rw [bsz]; exact hlen) hS.below.size)
      have i0' : (0 : Int) ≤ (st0.length : Int) := Int.natCast_nonneg _
      have i1' : (st0.length : Int) < ((st0.length : Int) + 1) := by omega
      unfold maxLen at hcap2
      have hlx := HS0.out
      have HSS := Lib.hid hS
      have HTX := Lib.hid htx
      have HII := Lib.hid i
      have HOWN := Lib.hid hown
      clear hS htx i hown hlt hwn hlen hlx
      have l0 : (0 : Int) < ((ss'.length : Int) + 1) := by omega
      rw [List.length_append, List.length_singleton]
      go_wp2_with fail
      refine HC.out.mono ?_
      rintro e w3 ⟨rfl, hb3, vb3, hbu3, hk3, hv3⟩
      have hS3 := HSS.out.wrote hb3 hbu3 hk3 hv3 hg2
      have i3 := hS3.its _ (List.mem_append_right _ (List.mem_singleton_self _))
      have hown3 := hS3.own
      rw [List.length_append, List.length_singleton] at hown3
      have k0 := (hown3.cellAt (st0.length * 2) (by omega)).trans (icells_last st0 _).1
      have k1 := (hown3.cellAt (st0.length * 2 + 1) (by omega)).trans (icells_last st0 _).2
      have kz := fun j => hown3.frozenAt j
      simp only [It.sv, List.length_cons] at k0 k1
      have hg3 := (row_cap hown3).2.2.2
      have HS3' := Lib.hid hS3
      have HI3 := Lib.hid i3
      have HOWN3 := Lib.hid hown3
      clear hb3 hbu3 hk3 hv3 hS3 i3 hown3 c0
      cases ts with
      | nil =>
        obtain ⟨pv, cv, hvv⟩ := HI3.out.args.form
        simp only [List.length_nil] at hvv
        rw [hvv] at k1
        have HSP := Lib.hid HS3'.out.pop
        have htx2 : (l ++ s) ++ outL st0 = t.text := by
          have := HTX.out
          rw [outL_snoc] at this
          simpa [wv] using this
        have HT2 := Lib.hid htx2
        clear htx2 ilen icap
        go_wp2_with fail
        go_roundg (iload st0)
        case rel => exact ⟨st0, g, cap, vb3, l ++ s, rfl, rfl, by have := HLD.out; rw [iload_snoc] at this; omega, HSP.out, HT2.out⟩
        case measure => rw [iload_snoc]; omega
      | cons y ys =>
        obtain ⟨b1, o1, d1, tp1, tc1, rp1, rc1, p1, c1, e1, hlc1, h63, hC1, hbw1, hcell1, hy, hys⟩ := openM (W := w) (wr := w3) HI3.out.args (.of_below HS3'.out.below)
        simp only at e1
        subst e1
        obtain ⟨f0, f1, f2, f3, f4, f5, f6, f7, f8⟩ := hcell1
        obtain ⟨q1, hq1, hT1⟩ := tailM_q hlc1 hys
        simp only [List.length_cons] at k1 ilen icap
        have hne1 : ¬ cc = 1 := by omega
        have ly : (0 : Int) < ((ys.length : Int) + 1) := by omega
        have hyI := HI3.out.isT y (by simp)
        have HYS := Lib.hid (fun x (hx : x ∈ ys) => HI3.out.isT x (by simp [hx]))
        have hyw := HI3.out.wt
        simp only [wtS] at hyw
        have hb1g : b1 ≠ g := by omega
        have HQ1 := Lib.hid hT1
        have HYT := Lib.hid hy
        have HYI := Lib.hid hyI
        have HYW := Lib.hid hyw
        clear hys hT1 hy hyI hyw
        go_wp2_with fail
        obtain ⟨w4, hw4, hs4, hb4, r4⟩ := box_new w3 (tmC y tp1 tc1 rp1 rc1 p1 c1) 35
        rw [hw4]
        have HS4 := Lib.hid (HS3'.out.keep hb4)
        have hown4 := HS4.out.own
        rw [List.length_append, List.length_singleton] at hown4
        have k0 := (hown4.cellAt (st0.length * 2) (by omega)).trans (icells_last st0 _).1
        have k1 := (hown4.cellAt (st0.length * 2 + 1) (by omega)).trans (icells_last st0 _).2
        have kz := fun j => hown4.frozenAt j
        simp only [It.sv, List.length_cons] at k0 k1
        have HX4 := Lib.hid (Bx9.of r4)
        have hg4 : g < w4.heap.size := by omega
        have hbg4 : w3.heap.size ≠ g := by omega
        obtain ⟨hst1, hgr1⟩ := hown4.stored (st0.length * 2) (It.sv ⟨ss', ys, bb, ii + 1, cc - 1, .slice q1 ys.length (d1 - 1)⟩)
        obtain ⟨hst2, hgr2⟩ := hst1.stored (st0.length * 2 + 1) (.slice q1 ys.length (d1 - 1))
        rw [icells_set st0 _ ⟨ss', ys, bb, ii + 1, cc - 1, .slice q1 ys.length (d1 - 1)⟩] at hst2
        simp only [It.sv] at hst2
        have HST := Lib.hid hst2
        have HB4 := Lib.hid hb4
        have HHS4 := Lib.hid hs4
        clear hown4 hst1 hst2 hgr1 hgr2 hb4 hs4 r4 hw4 f0 f1 f2 f3 f4 f5 f6 f7 f8
        go_region
        have hes : ss'.length = ys.length + 1 := by omega
        have hst := HST.out
        rw [hes] at hst
        obtain ⟨w5, hw5⟩ : ∃ w5, (w4.setCell ⟨g, st0.length * 2, none⟩ (.slice (some ⟨bb, ii + 1, none⟩) (ys.length + 1) (cc - 1))).setCell ⟨g, st0.length * 2 + 1, none⟩ (.slice q1 ys.length (d1 - 1)) = w5 := ⟨_, rfl⟩
        rw [hw5] at hst ⊢
        have hb5 : Below w.heap.size w4 w5 := by
          rw [← hw5]
          exact ((Below.refl _ w4).setCell (p := ⟨g, st0.length * 2, none⟩) (by omega) _).setCell (p := ⟨g, st0.length * 2 + 1, none⟩) (by omega) _
        have hoth : ∀ z, z ≠ g → w5.heap[z]? = w4.heap[z]? := fun z hz => by
          rw [← hw5, Below.heap_setCell _ _ _ _ hz, Below.heap_setCell _ _ _ _ hz]
        have hf : Itm w w4 w1.heap.size vb3 g ⟨ss', ys, bb, ii + 1, cc - 1, .slice q1 ys.length (d1 - 1)⟩ := by
          have i := HS4.out.its _ (List.mem_append_right _ (List.mem_singleton_self _))
          have i1 := i.cap
          have i2 := i.top
          have i3 := i.wt
          simp only [List.length_cons, wtS] at i1 i2 i3
          exact ⟨hes, by show ss'.length ≤ cc - 1; omega, by show cc - 1 ≤ 8; omega, i.lo, i.lt, i.nR, i.nv, i.ng, fun j s' hs' => by
            have := i.cells (j + 1) s' (by simpa using hs')
            show w4.cell? ⟨bb, ii + 1 + j, none⟩ = _
            rw [show ii + 1 + j = ii + (j + 1) by omega]
            exact this, HQ1.out, HYS.out, by show wtS ys ≤ 2097152; omega⟩
        have HS5 := Lib.hid (HS4.out.set hst hb5 hoth hf)
        have HX5 := Lib.hid (HX4.out.at (hoth _ hbg4))
        have HSG6 := Lib.hid (sgAt (HYT.out.stays (.of_below HS5.out.below)) HYI.out (by have := HYW.out; omega) (HP.out.below HS5.out.below))
        have hbj : ∀ {W : World}, Below w5.drew.drew.heap.size w5.drew.drew W → Below w5.heap.size w5 W := fun hW => (Below.refl _ w5).drew.drew.trans hW
        have hz5 : w4.heap.size ≤ w5.heap.size := hb5.size
        have hn5 : st0.length + 1 ≤ 4194305 := by
          have h1 := HLD.out
          have h2 := iload_len st0
          have h3 := nodesM_wt t.args
          have h4 := t.wt_eq
          have h5 := HN.out
          rw [iload_snoc] at h1
          omega
        have hbig : w.heap.size ≤ w5.heap.size := HS5.out.below.size
        have hSown := HS5.out.own
        rw [List.length_append, List.length_singleton] at hSown
        obtain ⟨x0, x1, x2, x3, x4, x5, x6, x7, x8⟩ := HX5.out
        have HSO := Lib.hid hSown
        have HB5 := Lib.hid HS5.out.below
        clear hw5 hst hb5 hoth hf hSown k0 k1 kz
        go_wp2_with fail
        go_region_held3 (fun w' => Below w.heap.size w w' ∧ w'.cell? ⟨w3.heap.size, 0, none⟩ = some (.int .i64 y.kind) ∧ w'.cell? ⟨w3.heap.size, 1, none⟩ = some (.string y.name) ∧ w'.cell? ⟨w3.heap.size, 2, none⟩ = some (.string y.other) ∧ w'.cell? ⟨w3.heap.size, 3, none⟩ = some (.int .i64 y.n) ∧ w'.cell? ⟨w3.heap.size, 4, none⟩ = some (.int .i64 y.ty.kind) ∧ w'.cell? ⟨w3.heap.size, 5, none⟩ = some (.slice tp1 y.ty.args.length tc1) ∧ w'.cell? ⟨w3.heap.size, 6, none⟩ = some (.int .i64 y.res.kind) ∧ w'.cell? ⟨w3.heap.size, 7, none⟩ = some (.slice rp1 y.res.args.length rc1) ∧ w'.cell? ⟨w3.heap.size, 8, none⟩ = some (.slice p1 y.args.length c1))
          (first
            | (go_keep; done)
            | exact ⟨HB5.out.drew.drew, x0, x1, x2, x3, x4, x5, x6, x7, x8⟩
            | exact kbA hA hbg4 (kbN (hbj hb6) ⟨HB5.out, x0, x1, x2, x3, x4, x5, x6, x7, x8⟩)
            | with_reducible exact kbN hb6 (by assumption)
            | with_reducible exact kbN (al_below _ _) (by assumption)
            | fail)
          (first
            | (go_at_call 19; refine (HSG6.out _ (Below.refl _ _).drew.drew).mono ?_; rintro e w6 ⟨sb6, rfl, hsb6, hsc6, hb6⟩)
            | (refine step_app1 (w0 := w6) (base := w.heap.size) (v := .slice (some ⟨g, 0, none⟩) (st0.length + 1) cap) (n := st0.length + 1) (xs := icells (st0 ++ [⟨ss', ys, bb, ii + 1, cc - 1, .slice q1 ys.length (d1 - 1)⟩])) (cs := [.slice (some ⟨sb6, 0, none⟩) (sg y).length (sg y).length, .slice p1 y.args.length c1]) rfl (.tmp 64) (.tmp 70) rfl Tryd.underlying52 hi hz0 hz1 hz2 rfl (by decide) rfl (row_below HSO.out (hbj hb6)) _ rfl (by simp) rfl (fun u hu => by simp at hu; rcases hu with rfl | rfl <;> rfl) (by unfold maxLen; omega) (by omega) (Nat.le_trans hbig (hbj hb6).size) ?_; intro w' gr cr hA)
            | fail)
        rename_i hH
        have hz6 := hb6.size
        have hS6 := HS5.out.keep (hbj hb6)
        have hlt6 : sb6 < w6.heap.size := (Array.getElem?_eq_some_iff.1 hsc6).1
        have hsb6' : w5.heap.size ≤ sb6 := by simpa using hsb6
        obtain ⟨a1, a2, a3⟩ := shape_sg (shape HYI.out)
        have hRl := hS6.bu.lt
        have hyw := HYW.out
        have hywe := y.wt_eq
        have he : Itm w w6 w1.heap.size vb3 g ⟨sg y, y.args, sb6, 0, (sg y).length, .slice p1 y.args.length c1⟩ :=
          Itm.new hsc6 a2 (sgN_len y) (by omega) (by have := HS5.out.bu.lt; omega) (fun e => by have := (HS5.out.vlt e); omega) (by omega) HYT.out.args a3 (by omega)
        have hA' := hA
        rw [show st0.length + 1 = (st0 ++ [(⟨ss', ys, bb, ii + 1, cc - 1, .slice q1 ys.length (d1 - 1)⟩ : It)]).length by simp] at hA'
        have HS7 := Lib.hid (hS6.push hA' he)
        have htx7 : (l ++ s) ++ outL ((st0 ++ [⟨ss', ys, bb, ii + 1, cc - 1, .slice q1 ys.length (d1 - 1)⟩]) ++ [⟨sg y, y.args, sb6, 0, (sg y).length, .slice p1 y.args.length c1⟩]) = t.text := by
          have h1 := HTX.out
          rw [outL_snoc] at h1
          rw [outL_snoc, outL_snoc, ← a1]
          simpa [wv] using h1
        have HT7 := Lib.hid htx7
        have hm7 : iload ((st0 ++ [⟨ss', ys, bb, ii + 1, cc - 1, .slice q1 ys.length (d1 - 1)⟩]) ++ [⟨sg y, y.args, sb6, 0, (sg y).length, .slice p1 y.args.length c1⟩]) + 1 = iload (st0 ++ [⟨s :: ss', y :: ys, bb, ii, cc, .slice (some ⟨b1, o1, none⟩) (ys.length + 1) d1⟩]) := by
          rw [iload_snoc, iload_snoc, iload_snoc]
          have := y.nodes_eq
          simp only [nodesM]
          omega
        have HM7 := Lib.hid hm7
        clear hA hA' he hS6 htx7 hm7 hsc6 hb6 hH a1 a2 a3 x0 x1 x2 x3 x4 x5 x6 x7 x8
        go_wp2_with fail
        go_roundg (iload ((st0 ++ [⟨ss', ys, bb, ii + 1, cc - 1, .slice q1 ys.length (d1 - 1)⟩]) ++ [⟨sg y, y.args, sb6, 0, (sg y).length, .slice p1 y.args.length c1⟩]))
        case rel => exact ⟨_, gr, cr, vb3, l ++ s, by simp, rfl, by have := HLD.out; have := HM7.out; omega, HS7.out, HT7.out⟩
        case measure => have := HM7.out; omega

set_option maxRecDepth 100000 in
set_option maxHeartbeats 1000000 in
/-- THE PROGRAM's TermText. -/
theorem termTextI_any {C : Nat → Prop} {t : Tm} {v : Value} {w : World} (hka : KA w) (hp : Pow w) (h : TM w C t v) (hn : t.wt ≤ 2097152) (x : List UInt8) (hx : (t.IsT ∧ x = t.text) ∨ (¬ t.IsT ∧ x = [])) :
    Calls Tryd.prog 8 #[v] w (StrRet x w) := by
  rcases hx with ⟨hi, rfl⟩ | ⟨hi, rfl⟩
  · exact txI_yes hka hp h hn hi
  have HTM := Lib.hid h
  obtain ⟨tp, tc, rp, rc, p, c, rfl, hT⟩ := h
  have HB := Lib.hid (al_below w (.cells (tmC t tp tc rp rc p c) 35))
  have HKA := Lib.hid hka
  clear hT hka hp
  go_enter Tryd.func8, Tryd.ntmps8
  go_wp2_with fail
  refine (isTermI_any (HKA.out.below HB.out) (HTM.out.keep HB.out) hn).mono ?_
  rintro e w1 ⟨r, hr, rfl, hb1⟩
  obtain rfl : r = false := by
    cases r with
    | false => rfl
    | true => exact absurd (hr.1 rfl) hi
  have HB1 := Lib.hid (HB.out.trans (hb1.mono HB.out.size))
  clear hb1 hr
  go_wp2_with fail
  go_ret
  exact ⟨rfl, HB1.out⟩
set_option maxRecDepth 100000 in
set_option maxHeartbeats 1000000 in
/-- THE PROGRAM's FormatTerm. -/
theorem fmtTermI_any {C : Nat → Prop} {t : Tm} {v : Value} {w : World} (hka : KA w) (hp : Pow w) (h : TM w C t v) (hn : t.wt ≤ 2097152) (x : List UInt8) (hx : (t.Valid ∧ x = t.text) ∨ (¬ t.Valid ∧ x = [])) :
    Calls Tryd.prog 11 #[v] w (StrRet x w) := by
  have HTM := Lib.hid h
  obtain ⟨tp, tc, rp, rc, p, c, rfl, hT⟩ := h
  have HX := Lib.hid (Bx9.new w t tp tc rp rc p c 35)
  have HB := Lib.hid (al_below w (.cells (tmC t tp tc rp rc p c) 35))
  have HKA := Lib.hid hka
  have HP := Lib.hid hp
  have HXX := Lib.hid hx
  clear hT hka hp hx
  go_enter Tryd.func11, Tryd.ntmps11
  go_wp2_with fail
  refine (validTermI_any (HKA.out.below HB.out) (HTM.out.keep HB.out) hn).mono ?_
  rintro e w1 ⟨r, hr, rfl, hb1⟩
  have HB1 := Lib.hid (HB.out.trans (hb1.mono HB.out.size))
  obtain ⟨g0, g1, g2, g3, g4, g5, g6, g7, g8⟩ := HX.out.keep hb1
  clear hb1
  rcases HXX.out with ⟨hi, rfl⟩ | ⟨hi, rfl⟩
  · obtain rfl : r = true := hr.2 hi
    have HC := Lib.hid (txI_yes (HKA.out.below HB1.out) (HP.out.below HB1.out) (HTM.out.keep HB1.out) hn hi.2.2)
    clear hr
    go_wp2_with fail
    refine HC.out.mono ?_
    rintro e w2 ⟨rfl, hb2⟩
    have HB2 := Lib.hid (HB1.out.trans (hb2.mono HB1.out.size))
    clear hb2
    go_wp2_with fail
    go_ret
    exact ⟨rfl, HB2.out⟩
  · obtain rfl : r = false := by
      cases r with
      | false => rfl
      | true => exact absurd (hr.1 rfl) hi
    clear hr
    go_wp2_with fail
    go_ret
    exact ⟨rfl, HB1.out⟩
end Go.Proofs.YtdofjnjiandcbaaDoor
/- Frame: THE FRAME OF A LAW, of no program: where a call returns true and leaves what was there as it was, the row's end is met: each argument reads as it read. -/
namespace Go.Proofs.YtdofjnjiandcbaaDoor
open Go Go.ChangeShapes Go.WideShapes Go.ChangeAt Go.RowKit

section
variable {H : Type} {enc : TypeId × Value → H} {P : Program}

/-- Every argument reads behind the call as it read before. -/
theorem trodAll_below (hl : laidOutB P = true) {W W' : World} (hb : Below W.heap.size W W') : ∀ (ts : List TypeId) (vs : List Value) (ds : List (DataW H)) (ps : List MemPlace),
    (∀ t ∈ ts, P.readableRec t = true ∧ t < P.types.size) → DataW.TrodAll enc P W 0 (fun _ => true) true ts vs ds ps → (∀ x ∈ ps, x.block < W.heap.size) →
    DataW.TrodAll enc P W' 0 (fun b => decide (b < W.heap.size)) true ts vs ds ps
  | [], [], [], _, _, h, _ => h
  | t :: ts, v :: vs, d :: ds, ps, hr, h, hlt => by
    obtain ⟨p, q, h1, h2, rfl⟩ := h
    have ht := hr t (List.mem_cons_self ..)
    exact ⟨p, q, Below.trod hl ht.1 ht.2 h1 hb (fun x hx => hlt x (List.mem_append_left _ hx)), trodAll_below hl hb ts vs ds q (fun u hu => hr u (List.mem_cons_of_mem _ hu)) h2 (fun x hx => hlt x (List.mem_append_right _ hx)), rfl⟩
  | [], _ :: _, _, _, _, h, _ => h.elim
  | [], [], _ :: _, _, _, h, _ => h.elim
  | _ :: _, [], _, _, _, h, _ => h.elim
  | _ :: _, _ :: _, [], _, _, h, _ => h.elim

/-- The end of a law's row. -/
theorem law_post {f : Func} {s : ChangeSpec} {W W' : World} {args : Array Value} {ds gs : List (DataW H)} {before : List MemPlace} {tb : TypeId} (hl : laidOutB P = true)
    (hts : (f.params.toList.all fun t => P.readableRec t && decide (t < P.types.size)) = true) (hbool : P.underlying tb = some .bool) (hres : f.resultTypes = #[tb]) (hvars : s.vars = [])
    (hW : DataW.Whole enc P f.params.toList s.vars false W args.toList ds gs before) (hr : (s.fn H ds).results = [.lit (.bool true)]) (ha : (s.fn H ds).args = ds) (hv : (s.fn H ds).vars = [])
    (hb : Below W.heap.size W W') : s.post enc P f false true false false W args (.bool true) W' := by
  have hW0 := hW
  obtain ⟨p, q, hA, hV, rfl, hfz, _⟩ := hW
  rw [hvars] at hV
  obtain ⟨rfl, rfl⟩ := trodVars_none hV
  have hlt : ∀ x ∈ p, x.block < W.heap.size := fun x hx => hW0.lt x (List.mem_append_left _ hx)
  refine ⟨ds, [], p ++ [], [], p, [], hW0, ?_, ?_, ?_, hb.frame _, fun h => by cases h⟩
  · rw [List.append_nil, hr, hres]
    exact trodAll_mk1 (shut_bool hbool _)
  · rw [List.append_nil, ha]
    refine trodAll_below hl hb _ _ _ _ (fun t ht => ?_) hA hlt
    have := List.all_eq_true.1 hts t ht
    simp only [Bool.and_eq_true, decide_eq_true_eq] at this
    exact this
  · rw [List.append_nil, hv, hvars]
    rfl
end
end Go.Proofs.YtdofjnjiandcbaaDoor
/- FrameV: The end of a law's row whose function names variables: they read behind the call as before. Of no program. -/
namespace Go.Proofs.YtdofjnjiandcbaaDoor
open Go Go.ChangeShapes Go.WideShapes Go.ChangeAt Go.RowKit

section
variable {H : Type} {enc : TypeId × Value → H} {P : Program}

theorem law_postV {f : Func} {s : ChangeSpec} {W W' : World} {args : Array Value} {ds gs : List (DataW H)} {before : List MemPlace} {tb : TypeId} (hl : laidOutB P = true)
    (hts : (f.params.toList.all fun t => P.readableRec t && decide (t < P.types.size)) = true) (hbool : P.underlying tb = some .bool) (hres : f.resultTypes = #[tb]) (hvars : varsRowed P s.vars = true)
    (hW : DataW.Whole enc P f.params.toList s.vars false W args.toList ds gs before) (hr : (s.fn H (ds ++ gs)).results = [.lit (.bool true)]) (ha : (s.fn H (ds ++ gs)).args = ds) (hv : (s.fn H (ds ++ gs)).vars = gs)
    (hb : Below W.heap.size W W') : s.post enc P f false true false false W args (.bool true) W' := by
  have hW0 := hW
  obtain ⟨p, q, hA, hV, rfl, hfz, _⟩ := hW
  have hlt : ∀ x ∈ p, x.block < W.heap.size := fun x hx => hW0.lt x (List.mem_append_left _ hx)
  refine ⟨ds, gs, p ++ q, [], p, q, hW0, ?_, ?_, ?_, hb.frame _, fun h => by cases h⟩
  · rw [hr, hres]
    exact trodAll_mk1 (shut_bool hbool _)
  · rw [ha]
    refine trodAll_below hl hb _ _ _ _ (fun t ht => ?_) hA hlt
    have := List.all_eq_true.1 hts t ht
    simp only [Bool.and_eq_true, decide_eq_true_eq] at this
    exact this
  · rw [hv]
    exact Below.trodVars hl hb hvars hV
end
end Go.Proofs.YtdofjnjiandcbaaDoor
