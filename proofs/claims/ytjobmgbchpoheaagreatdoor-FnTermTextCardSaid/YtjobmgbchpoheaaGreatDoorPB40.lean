/-
  Several texts of the proof in one (each says below what it holds): TxI RdI9 TmAny.
-/
import Derived.Test.YtjobmgbchpoheaaGreatDoorPB36
import Derived.Test.YtjobmgbchpoheaaGreatDoorPB39
import Derived.Test.YtjobmgbchpoheaaGreatDoorPB14
import Derived.Test.YtjobmgbchpoheaaGreatDoorPB4
import Derived.Test.YtjobmgbchpoheaaGreatDoorPB33
import Derived.Test.YtjobmgbchpoheaaGreatDoorPB7
import Derived.Test.YtjobmgbchpoheaaGreatDoorPB11
import Derived.RegionTactic
import Derived.ChangeAlike
namespace Go.Proofs.YtjobmgbchpoheaaGreatDoor
open Go Go.RowKit Go.Shelf

theorem kbN {w W w1 : World} {p0 p1 p2 p3 p4 p5 p6 p7 p8 : Addr} {v0 v1 v2 v3 v4 v5 v6 v7 v8 : Value} (hb : Below W.heap.size W w1) (h : Below w.heap.size w W ∧ W.cell? p0 = some v0 ∧ W.cell? p1 = some v1 ∧ W.cell? p2 = some v2 ∧ W.cell? p3 = some v3 ∧ W.cell? p4 = some v4 ∧ W.cell? p5 = some v5 ∧ W.cell? p6 = some v6 ∧ W.cell? p7 = some v7 ∧ W.cell? p8 = some v8) : Below w.heap.size w w1 ∧ w1.cell? p0 = some v0 ∧ w1.cell? p1 = some v1 ∧ w1.cell? p2 = some v2 ∧ w1.cell? p3 = some v3 ∧ w1.cell? p4 = some v4 ∧ w1.cell? p5 = some v5 ∧ w1.cell? p6 = some v6 ∧ w1.cell? p7 = some v7 ∧ w1.cell? p8 = some v8 := by
  obtain ⟨h, h0, h1, h2, h3, h4, h5, h6, h7, h8⟩ := h
  exact ⟨h.trans (hb.mono h.size), kb hb h0, kb hb h1, kb hb h2, kb hb h3, kb hb h4, kb hb h5, kb hb h6, kb hb h7, kb hb h8⟩
theorem kbA {w W w1 : World} {b o0 o1 o2 o3 o4 o5 o6 o7 o8 : Nat} {v0 v1 v2 v3 v4 v5 v6 v7 v8 : Value} {e : TypeId} {size n c g cap g0 : Nat} {xs cs : List Value} (hA : Appd W w1 w.heap.size e size (.slice (some ⟨g0, 0, none⟩) n c) n xs cs g cap) (hne : b ≠ g0) (h : Below w.heap.size w W ∧ W.cell? ⟨b, o0, none⟩ = some v0 ∧ W.cell? ⟨b, o1, none⟩ = some v1 ∧ W.cell? ⟨b, o2, none⟩ = some v2 ∧ W.cell? ⟨b, o3, none⟩ = some v3 ∧ W.cell? ⟨b, o4, none⟩ = some v4 ∧ W.cell? ⟨b, o5, none⟩ = some v5 ∧ W.cell? ⟨b, o6, none⟩ = some v6 ∧ W.cell? ⟨b, o7, none⟩ = some v7 ∧ W.cell? ⟨b, o8, none⟩ = some v8) : Below w.heap.size w w1 ∧ w1.cell? ⟨b, o0, none⟩ = some v0 ∧ w1.cell? ⟨b, o1, none⟩ = some v1 ∧ w1.cell? ⟨b, o2, none⟩ = some v2 ∧ w1.cell? ⟨b, o3, none⟩ = some v3 ∧ w1.cell? ⟨b, o4, none⟩ = some v4 ∧ w1.cell? ⟨b, o5, none⟩ = some v5 ∧ w1.cell? ⟨b, o6, none⟩ = some v6 ∧ w1.cell? ⟨b, o7, none⟩ = some v7 ∧ w1.cell? ⟨b, o8, none⟩ = some v8 := by
  have k : (Value.slice (some ⟨g0, 0, none⟩) n c).ownBlock ≠ some b := by simp [Value.ownBlock]; omega
  obtain ⟨h, h0, h1, h2, h3, h4, h5, h6, h7, h8⟩ := h
  exact ⟨h.trans hA.below, keepApp hA h0 k, keepApp hA h1 k, keepApp hA h2 k, keepApp hA h3 k, keepApp hA h4 k, keepApp hA h5 k, keepApp hA h6 k, keepApp hA h7 k, keepApp hA h8 k⟩
theorem sgN_len (t : Tm) : (sg t).length ≤ 4 := by
  have := sg_tail t
  rw [List.length_tail] at this
  omega
theorem isT_kind {t : Tm} (h : t.IsT) : 1 ≤ t.kind ∧ t.kind ≤ 13 := by
  cases shape h <;> simp [Tm.kind]
theorem isT_n {t : Tm} (h : t.IsT) : -9223372036854775808 ≤ t.n ∧ t.n ≤ 9223372036854775807 := by
  cases shape h <;> simp only [Tm.n] <;> omega
theorem sgAt {C : Nat → Prop} {t : Tm} {tp : Option Addr} {tc : Nat} {rp : Option Addr} {rc : Nat} {p : Option Addr} {c : Nat} {w : World} (hT : TM' w C t tp tc rp rc p c) (hI : t.IsT) (hn : t.wt ≤ 2097152) (hp : Pow w) (W : World) (hW : Below w.heap.size w W) :
    Calls Tryz.prog 33 #[tmV t tp tc rp rc p c] W (Sgs (sg t) W) := by
  have hwe := t.wt_eq
  have hT' := hT.stays (.of_below hW)
  obtain ⟨n0, n1⟩ := isT_n hI
  exact sg_any p t.args.length c W (isT_kind hI) hT'.ty hT'.res (by omega) (by omega) (by omega) (by omega) (fun _ W2 hW2 => implFmt_any t.n n0 n1 W2 ((hp.below hW).below hW2))

set_option maxRecDepth 100000 in
set_option maxHeartbeats 8000000 in
theorem txI_yes {C : Nat → Prop} {t : Tm} {v : Value} {w : World} (hka : KA w) (hp : Pow w) (h : TM w C t v) (hn : t.wt ≤ 2097152) (hI : t.IsT) :
    Calls Tryz.prog 12 #[v] w (StrRet t.text w) := by
  obtain ⟨i0, hi, hz0, hz1, hz2⟩ := info_parts infoBg
  have HTM := Lib.hid h
  obtain ⟨tp, tc, rp, rc, p, c, rfl, hT⟩ := h
  have HT := Lib.hid hT
  have HX := Lib.hid (Bx9.new w t tp tc rp rc p c 29)
  have HB := Lib.hid (al_below w (.cells (tmC t tp tc rp rc p c) 29))
  obtain ⟨s1, s2, s3⟩ := shape_sg (shape hI)
  have HS1 := Lib.hid s1
  have HS2 := Lib.hid s2
  have HS3 := Lib.hid s3
  have HKA := Lib.hid hka
  have HP := Lib.hid hp
  have HI := Lib.hid hI
  have HLEN := Lib.hid (textM_le t hI)
  have HN := Lib.hid hn
  clear hT s1 s2 s3 hka hp hI
  go_enter Tryz.func12, Tryz.ntmps12
  go_wp2_with fail
  refine (isTermI_any (HKA.out.below HB.out) (HTM.out.keep HB.out) hn).mono ?_
  rintro e w1 ⟨r, hr, rfl, hb1⟩
  obtain rfl : r = true := hr.2 HI.out
  have HB1 := Lib.hid (HB.out.trans (hb1.mono HB.out.size))
  have HX1 := Lib.hid (HX.out.keep hb1)
  clear hb1 hr hn
  obtain ⟨g0, g1, g2, g3, g4, g5, g6, g7, g8⟩ := HX1.out
  have HBU := Lib.hid (Bu.fresh w1)
  have hbA := al_below w1 (.cells #[.pointer none, .slice none 0 0] 52)
  have HBA := Lib.hid hbA
  obtain ⟨x0, x1, x2, x3, x4, x5, x6, x7, x8⟩ := HX1.out.keep hbA
  have HSG := Lib.hid (sgAt HT.out HI.out HN.out HP.out)
  clear hbA
  go_wp2_with fail
  go_region_held3 (fun w' => Below w.heap.size w w' ∧ w'.cell? ⟨w.heap.size, 0, none⟩ = some (.int .i64 t.kind) ∧ w'.cell? ⟨w.heap.size, 1, none⟩ = some (.string t.name) ∧ w'.cell? ⟨w.heap.size, 2, none⟩ = some (.string t.other) ∧ w'.cell? ⟨w.heap.size, 3, none⟩ = some (.int .i64 t.n) ∧ w'.cell? ⟨w.heap.size, 4, none⟩ = some (.int .i64 t.ty.kind) ∧ w'.cell? ⟨w.heap.size, 5, none⟩ = some (.slice tp t.ty.args.length tc) ∧ w'.cell? ⟨w.heap.size, 6, none⟩ = some (.int .i64 t.res.kind) ∧ w'.cell? ⟨w.heap.size, 7, none⟩ = some (.slice rp t.res.args.length rc) ∧ w'.cell? ⟨w.heap.size, 8, none⟩ = some (.slice p t.args.length c))
    (first
      | (go_keep; done)
      | exact ⟨HB1.out.trans ((HBA.out.drew).mono HB1.out.size), x0, x1, x2, x3, x4, x5, x6, x7, x8⟩
      | with_reducible exact kbN hb2 (by assumption)
      | with_reducible exact kbN (al_below _ _) (by assumption)
      | fail)
    (first
      | (go_at_call 33; refine (HSG.out _ (And.left (by assumption))).mono ?_; rintro e w2 ⟨sb, rfl, hsb, hsc, hb2⟩)
      | fail)
  have hbw2 : Below w.heap.size w w2 := by
    have h1 := HB1.out.trans ((HBA.out.drew).mono HB1.out.size)
    exact h1.trans (hb2.mono h1.size)
  have hs0 : TxS w w1.heap.size [⟨sg t, t.args, sb, 0, (sg t).length, .slice p t.args.length c⟩] w2.heap.size 1 (.slice none 0 0) [] (w2.alloc (.cells #[.slice (some ⟨sb, 0, none⟩) (sg t).length (sg t).length, .slice p t.args.length c] 56)) := by
    have hsb' : w1.heap.size + 1 ≤ sb := by simpa using hsb
    have hlt2 : sb < w2.heap.size := (Array.getElem?_eq_some_iff.1 hsc).1
    have hz2 : w1.heap.size + 1 ≤ w2.heap.size := by omega
    have hz1 := HB1.out.size
    have hbn := al_below w2 (.cells #[.slice (some ⟨sb, 0, none⟩) (sg t).length (sg t).length, .slice p t.args.length c] 56)
    have hwe := t.wt_eq
    have hwn := HN.out
    refine ⟨hbw2.trans (hbn.mono hbw2.size), ⟨hz1, ⟨_, Or.inl rfl, ?_⟩, World.ownsRow_nil _ _ _ _, by simp [Value.ownBlock]⟩, ?_, by omega, by simp [Value.ownBlock], fun x hx => ?_⟩
    · obtain ⟨q, hq, hq2⟩ := HBU.out.blk
      have h1 : ((w1.alloc (.cells #[.pointer none, .slice none 0 0] 52)).drew).heap[w1.heap.size]? = some (.cells #[.pointer none, .slice none 0 0] 52 (0, 0)) := blk_new w1 _
      exact (hbn.block _ (by omega)).trans ((hb2.block _ (by simp)).trans h1)
    · exact World.ownsRow_lit (base := w.heap.size) (e := 56) (size := 2) w2 #[.slice (some ⟨sb, 0, none⟩) (sg t).length (sg t).length, .slice p t.args.length c] 1 (by omega) (by unfold maxLen; omega) rfl
    · simp only [List.mem_singleton] at hx
      subst hx
      exact Itm.new ((hbn.block _ hlt2).trans hsc) HS2.out (sgN_len t) (by omega) (by omega) (by simp [Value.ownBlock]) (by omega) ((HT.out.args.mono (fun _ _ hl => hl))) HS3.out (by omega)
  rename_i hH
  clear hH hb2 hsc hsb x0 x1 x2 x3 x4 x5 x6 x7 x8 g0 g1 g2 g3 g4 g5 g6 g7 g8
  have HS0 := Lib.hid hs0
  clear hs0 hbw2
  go_wp2_with fail
  go_loopg [4] (1 + 2 * nodesM t.args) (fun gk v wr => ∃ (st : List It) (g cap : Nat) (vb : Value) (l : List UInt8), v = .slice (some ⟨g, 0, none⟩) st.length cap ∧ gk = iload st ∧ iload st ≤ 1 + 2 * nodesM t.args ∧ TxS w w1.heap.size st g cap vb l wr ∧ l ++ outL st = t.text)
  case atStart => exact ⟨_, w2.heap.size, 1, _, [], rfl, by simp [iload], by simp [iload], HS0.out, by simp [outL, HS1.out]⟩
  case round =>
    obtain ⟨st, g, cap, vb, l, rfl, rfl, hld, hS, htx⟩ := hrel
    have HLD := Lib.hid hld
    clear hld
    rename World => wo
    rcases snoc_cases st with rfl | ⟨st0, ⟨ss, ts, bb, ii, cc, vv⟩, rfl⟩
    · have hl : l = t.text := by rw [← htx]; simp [outL]
      subst hl
      have HC := Lib.hid (bstr_any _ _ _ _ wo hS.bu hS.below.size)
      have HBL := Lib.hid hS.below
      clear hS htx
      go_wp2_with fail
      refine HC.out.mono ?_
      rintro e w3 ⟨rfl, hb3⟩
      have HB3 := Lib.hid (HBL.out.trans hb3)
      clear hb3
      go_wp2_with fail
      go_ret
      exact ⟨rfl, HB3.out⟩
    · have i := hS.its _ (List.mem_append_right _ (List.mem_singleton_self _))
      have ilen := i.len
      have icap := i.cap
      simp only at ilen icap
      obtain ⟨s, ss', rfl⟩ := List.exists_cons_of_length_pos (l := ss) (by omega)
      have c0 := i.cells 0 s rfl
      simp only [Nat.add_zero] at c0
      have hown := hS.own
      rw [List.length_append, List.length_singleton] at hown
      obtain ⟨hcap1, hcap2, hg1, hg2⟩ := row_cap hown
      have k0 := (hown.cellAt (st0.length * 2) (by omega)).trans (icells_last st0 _).1
      have k1 := (hown.cellAt (st0.length * 2 + 1) (by omega)).trans (icells_last st0 _).2
      simp only [It.sv, List.length_cons] at k0 k1
      have hlt := HLEN.out
      have hwn := HN.out
      have hlen : l.length + s.length ≤ 140737488355328 := by
        have := congrArg List.length htx
        rw [outL_snoc] at this
        have h2 : s.length ≤ (wv (s :: ss') ts).length := by
          cases ts with
          | nil => exact Nat.le_refl _
          | cons y ys => rw [wv, List.length_append]; omega
        simp only [List.length_append] at this
        omega
      have HC := Lib.hid (wstr_any w.heap.size w1.heap.size vb l ⟨s.toArray⟩ wo hS.bu (by rw [bsz]; exact hlen) hS.below.size)
      have i0' : (0 : Int) ≤ (st0.length : Int) := Int.natCast_nonneg _
      have i1' : (st0.length : Int) < ((st0.length : Int) + 1) := by omega
      unfold maxLen at hcap2
      have hlx := HS0.out
      have HSS := Lib.hid hS
      have HTX := Lib.hid htx
      have HII := Lib.hid i
      have HOWN := Lib.hid hown
      clear hS htx i hown hlt hwn hlen hlx
      have l0 : (0 : Int) < ((ss'.length : Int) + 1) := by omega
      rw [List.length_append, List.length_singleton]
      go_wp2_with fail
      refine HC.out.mono ?_
      rintro e w3 ⟨rfl, hb3, vb3, hbu3, hk3, hv3⟩
      have hS3 := HSS.out.wrote hb3 hbu3 hk3 hv3 hg2
      have i3 := hS3.its _ (List.mem_append_right _ (List.mem_singleton_self _))
      have hown3 := hS3.own
      rw [List.length_append, List.length_singleton] at hown3
      have k0 := (hown3.cellAt (st0.length * 2) (by omega)).trans (icells_last st0 _).1
      have k1 := (hown3.cellAt (st0.length * 2 + 1) (by omega)).trans (icells_last st0 _).2
      have kz := fun j => hown3.frozenAt j
      simp only [It.sv, List.length_cons] at k0 k1
      have hg3 := (row_cap hown3).2.2.2
      have HS3' := Lib.hid hS3
      have HI3 := Lib.hid i3
      have HOWN3 := Lib.hid hown3
      clear hb3 hbu3 hk3 hv3 hS3 i3 hown3 c0
      cases ts with
      | nil =>
        obtain ⟨pv, cv, hvv⟩ := HI3.out.args.form
        simp only [List.length_nil] at hvv
        rw [hvv] at k1
        have HSP := Lib.hid HS3'.out.pop
        have htx2 : (l ++ s) ++ outL st0 = t.text := by
          have := HTX.out
          rw [outL_snoc] at this
          simpa [wv] using this
        have HT2 := Lib.hid htx2
        clear htx2 ilen icap
        go_wp2_with fail
        go_roundg (iload st0)
        case rel => exact ⟨st0, g, cap, vb3, l ++ s, rfl, rfl, by have := HLD.out; rw [iload_snoc] at this; omega, HSP.out, HT2.out⟩
        case measure => rw [iload_snoc]; omega
      | cons y ys =>
        obtain ⟨b1, o1, d1, tp1, tc1, rp1, rc1, p1, c1, e1, hlc1, h63, hC1, hbw1, hcell1, hy, hys⟩ := openM (W := w) (wr := w3) HI3.out.args (.of_below HS3'.out.below)
        simp only at e1
        subst e1
        obtain ⟨f0, f1, f2, f3, f4, f5, f6, f7, f8⟩ := hcell1
        obtain ⟨q1, hq1, hT1⟩ := tailM_q hlc1 hys
        simp only [List.length_cons] at k1 ilen icap
        have hne1 : ¬ cc = 1 := by omega
        have ly : (0 : Int) < ((ys.length : Int) + 1) := by omega
        have hyI := HI3.out.isT y (by simp)
        have HYS := Lib.hid (fun x (hx : x ∈ ys) => HI3.out.isT x (by simp [hx]))
        have hyw := HI3.out.wt
        simp only [wtS] at hyw
        have hb1g : b1 ≠ g := by omega
        have HQ1 := Lib.hid hT1
        have HYT := Lib.hid hy
        have HYI := Lib.hid hyI
        have HYW := Lib.hid hyw
        clear hys hT1 hy hyI hyw
        go_wp2_with fail
        obtain ⟨w4, hw4, hs4, hb4, r4⟩ := box_new w3 (tmC y tp1 tc1 rp1 rc1 p1 c1) 29
        rw [hw4]
        have HS4 := Lib.hid (HS3'.out.keep hb4)
        have hown4 := HS4.out.own
        rw [List.length_append, List.length_singleton] at hown4
        have k0 := (hown4.cellAt (st0.length * 2) (by omega)).trans (icells_last st0 _).1
        have k1 := (hown4.cellAt (st0.length * 2 + 1) (by omega)).trans (icells_last st0 _).2
        have kz := fun j => hown4.frozenAt j
        simp only [It.sv, List.length_cons] at k0 k1
        have HX4 := Lib.hid (Bx9.of r4)
        have hg4 : g < w4.heap.size := by omega
        have hbg4 : w3.heap.size ≠ g := by omega
        obtain ⟨hst1, hgr1⟩ := hown4.stored (st0.length * 2) (It.sv ⟨ss', ys, bb, ii + 1, cc - 1, .slice q1 ys.length (d1 - 1)⟩)
        obtain ⟨hst2, hgr2⟩ := hst1.stored (st0.length * 2 + 1) (.slice q1 ys.length (d1 - 1))
        rw [icells_set st0 _ ⟨ss', ys, bb, ii + 1, cc - 1, .slice q1 ys.length (d1 - 1)⟩] at hst2
        simp only [It.sv] at hst2
        have HST := Lib.hid hst2
        have HB4 := Lib.hid hb4
        have HHS4 := Lib.hid hs4
        clear hown4 hst1 hst2 hgr1 hgr2 hb4 hs4 r4 hw4 f0 f1 f2 f3 f4 f5 f6 f7 f8
        go_region
        have hes : ss'.length = ys.length + 1 := by omega
        have hst := HST.out
        rw [hes] at hst
        obtain ⟨w5, hw5⟩ : ∃ w5, (w4.setCell ⟨g, st0.length * 2, none⟩ (.slice (some ⟨bb, ii + 1, none⟩) (ys.length + 1) (cc - 1))).setCell ⟨g, st0.length * 2 + 1, none⟩ (.slice q1 ys.length (d1 - 1)) = w5 := ⟨_, rfl⟩
        rw [hw5] at hst ⊢
        have hb5 : Below w.heap.size w4 w5 := by
          rw [← hw5]
          exact ((Below.refl _ w4).setCell (p := ⟨g, st0.length * 2, none⟩) (by omega) _).setCell (p := ⟨g, st0.length * 2 + 1, none⟩) (by omega) _
        have hoth : ∀ z, z ≠ g → w5.heap[z]? = w4.heap[z]? := fun z hz => by
          rw [← hw5, Below.heap_setCell _ _ _ _ hz, Below.heap_setCell _ _ _ _ hz]
        have hf : Itm w w4 w1.heap.size vb3 g ⟨ss', ys, bb, ii + 1, cc - 1, .slice q1 ys.length (d1 - 1)⟩ := by
          have i := HS4.out.its _ (List.mem_append_right _ (List.mem_singleton_self _))
          have i1 := i.cap
          have i2 := i.top
          have i3 := i.wt
          simp only [List.length_cons, wtS] at i1 i2 i3
          exact ⟨hes, by show ss'.length ≤ cc - 1; omega, by show cc - 1 ≤ 8; omega, i.lo, i.lt, i.nR, i.nv, i.ng, fun j s' hs' => by
            have := i.cells (j + 1) s' (by simpa using hs')
            show w4.cell? ⟨bb, ii + 1 + j, none⟩ = _
            rw [show ii + 1 + j = ii + (j + 1) by omega]
            exact this, HQ1.out, HYS.out, by show wtS ys ≤ 2097152; omega⟩
        have HS5 := Lib.hid (HS4.out.set hst hb5 hoth hf)
        have HX5 := Lib.hid (HX4.out.at (hoth _ hbg4))
        have HSG6 := Lib.hid (sgAt (HYT.out.stays (.of_below HS5.out.below)) HYI.out (by have := HYW.out; omega) (HP.out.below HS5.out.below))
        have hbj : ∀ {W : World}, Below w5.drew.drew.heap.size w5.drew.drew W → Below w5.heap.size w5 W := fun hW => (Below.refl _ w5).drew.drew.trans hW
        have hz5 : w4.heap.size ≤ w5.heap.size := hb5.size
        have hn5 : st0.length + 1 ≤ 4194305 := by
          have h1 := HLD.out
          have h2 := iload_len st0
          have h3 := nodesM_wt t.args
          have h4 := t.wt_eq
          have h5 := HN.out
          rw [iload_snoc] at h1
          omega
        have hbig : w.heap.size ≤ w5.heap.size := HS5.out.below.size
        have hSown := HS5.out.own
        rw [List.length_append, List.length_singleton] at hSown
        obtain ⟨x0, x1, x2, x3, x4, x5, x6, x7, x8⟩ := HX5.out
        have HSO := Lib.hid hSown
        have HB5 := Lib.hid HS5.out.below
        clear hw5 hst hb5 hoth hf hSown k0 k1 kz
        go_wp2_with fail
        go_region_held3 (fun w' => Below w.heap.size w w' ∧ w'.cell? ⟨w3.heap.size, 0, none⟩ = some (.int .i64 y.kind) ∧ w'.cell? ⟨w3.heap.size, 1, none⟩ = some (.string y.name) ∧ w'.cell? ⟨w3.heap.size, 2, none⟩ = some (.string y.other) ∧ w'.cell? ⟨w3.heap.size, 3, none⟩ = some (.int .i64 y.n) ∧ w'.cell? ⟨w3.heap.size, 4, none⟩ = some (.int .i64 y.ty.kind) ∧ w'.cell? ⟨w3.heap.size, 5, none⟩ = some (.slice tp1 y.ty.args.length tc1) ∧ w'.cell? ⟨w3.heap.size, 6, none⟩ = some (.int .i64 y.res.kind) ∧ w'.cell? ⟨w3.heap.size, 7, none⟩ = some (.slice rp1 y.res.args.length rc1) ∧ w'.cell? ⟨w3.heap.size, 8, none⟩ = some (.slice p1 y.args.length c1))
          (first
            | (go_keep; done)
            | exact ⟨HB5.out.drew.drew, x0, x1, x2, x3, x4, x5, x6, x7, x8⟩
            | exact kbA hA hbg4 (kbN (hbj hb6) ⟨HB5.out, x0, x1, x2, x3, x4, x5, x6, x7, x8⟩)
            | with_reducible exact kbN hb6 (by assumption)
            | with_reducible exact kbN (al_below _ _) (by assumption)
            | fail)
          (first
            | (go_at_call 33; refine (HSG6.out _ (Below.refl _ _).drew.drew).mono ?_; rintro e w6 ⟨sb6, rfl, hsb6, hsc6, hb6⟩)
            | (refine step_app1 (w0 := w6) (base := w.heap.size) (v := .slice (some ⟨g, 0, none⟩) (st0.length + 1) cap) (n := st0.length + 1) (xs := icells (st0 ++ [⟨ss', ys, bb, ii + 1, cc - 1, .slice q1 ys.length (d1 - 1)⟩])) (cs := [.slice (some ⟨sb6, 0, none⟩) (sg y).length (sg y).length, .slice p1 y.args.length c1]) rfl (.tmp 64) (.tmp 70) rfl Tryz.underlying57 hi hz0 hz1 hz2 rfl (by decide) rfl (row_below HSO.out (hbj hb6)) _ rfl (by simp) rfl (fun u hu => by simp at hu; rcases hu with rfl | rfl <;> rfl) (by unfold maxLen; omega) (by omega) (Nat.le_trans hbig (hbj hb6).size) ?_; intro w' gr cr hA)
            | fail)
        rename_i hH
        have hz6 := hb6.size
        have hS6 := HS5.out.keep (hbj hb6)
        have hlt6 : sb6 < w6.heap.size := (Array.getElem?_eq_some_iff.1 hsc6).1
        have hsb6' : w5.heap.size ≤ sb6 := by simpa using hsb6
        obtain ⟨a1, a2, a3⟩ := shape_sg (shape HYI.out)
        have hRl := hS6.bu.lt
        have hyw := HYW.out
        have hywe := y.wt_eq
        have he : Itm w w6 w1.heap.size vb3 g ⟨sg y, y.args, sb6, 0, (sg y).length, .slice p1 y.args.length c1⟩ :=
          Itm.new hsc6 a2 (sgN_len y) (by omega) (by have := HS5.out.bu.lt; omega) (fun e => by have := (HS5.out.vlt e); omega) (by omega) HYT.out.args a3 (by omega)
        have hA' := hA
        rw [show st0.length + 1 = (st0 ++ [(⟨ss', ys, bb, ii + 1, cc - 1, .slice q1 ys.length (d1 - 1)⟩ : It)]).length by simp] at hA'
        have HS7 := Lib.hid (hS6.push hA' he)
        have htx7 : (l ++ s) ++ outL ((st0 ++ [⟨ss', ys, bb, ii + 1, cc - 1, .slice q1 ys.length (d1 - 1)⟩]) ++ [⟨sg y, y.args, sb6, 0, (sg y).length, .slice p1 y.args.length c1⟩]) = t.text := by
          have h1 := HTX.out
          rw [outL_snoc] at h1
          rw [outL_snoc, outL_snoc, ← a1]
          simpa [wv] using h1
        have HT7 := Lib.hid htx7
        have hm7 : iload ((st0 ++ [⟨ss', ys, bb, ii + 1, cc - 1, .slice q1 ys.length (d1 - 1)⟩]) ++ [⟨sg y, y.args, sb6, 0, (sg y).length, .slice p1 y.args.length c1⟩]) + 1 = iload (st0 ++ [⟨s :: ss', y :: ys, bb, ii, cc, .slice (some ⟨b1, o1, none⟩) (ys.length + 1) d1⟩]) := by
          rw [iload_snoc, iload_snoc, iload_snoc]
          have := y.nodes_eq
          simp only [nodesM]
          omega
        have HM7 := Lib.hid hm7
        clear hA hA' he hS6 htx7 hm7 hsc6 hb6 hH a1 a2 a3 x0 x1 x2 x3 x4 x5 x6 x7 x8
        go_wp2_with fail
        go_roundg (iload ((st0 ++ [⟨ss', ys, bb, ii + 1, cc - 1, .slice q1 ys.length (d1 - 1)⟩]) ++ [⟨sg y, y.args, sb6, 0, (sg y).length, .slice p1 y.args.length c1⟩]))
        case rel => exact ⟨_, gr, cr, vb3, l ++ s, by simp, rfl, by have := HLD.out; have := HM7.out; omega, HS7.out, HT7.out⟩
        case measure => have := HM7.out; omega

set_option maxRecDepth 100000 in
set_option maxHeartbeats 1000000 in
theorem termTextI_any {C : Nat → Prop} {t : Tm} {v : Value} {w : World} (hka : KA w) (hp : Pow w) (h : TM w C t v) (hn : t.wt ≤ 2097152) (x : List UInt8) (hx : (t.IsT ∧ x = t.text) ∨ (¬ t.IsT ∧ x = [])) :
    Calls Tryz.prog 12 #[v] w (StrRet x w) := by
  rcases hx with ⟨hi, rfl⟩ | ⟨hi, rfl⟩
  · exact txI_yes hka hp h hn hi
  have HTM := Lib.hid h
  obtain ⟨tp, tc, rp, rc, p, c, rfl, hT⟩ := h
  have HB := Lib.hid (al_below w (.cells (tmC t tp tc rp rc p c) 29))
  have HKA := Lib.hid hka
  clear hT hka hp
  go_enter Tryz.func12, Tryz.ntmps12
  go_wp2_with fail
  refine (isTermI_any (HKA.out.below HB.out) (HTM.out.keep HB.out) hn).mono ?_
  rintro e w1 ⟨r, hr, rfl, hb1⟩
  obtain rfl : r = false := by
    cases r with
    | false => rfl
    | true => exact absurd (hr.1 rfl) hi
  have HB1 := Lib.hid (HB.out.trans (hb1.mono HB.out.size))
  clear hb1 hr
  go_wp2_with fail
  go_ret
  exact ⟨rfl, HB1.out⟩
set_option maxRecDepth 100000 in
set_option maxHeartbeats 1000000 in
theorem fmtTermI_any {C : Nat → Prop} {t : Tm} {v : Value} {w : World} (hka : KA w) (hp : Pow w) (h : TM w C t v) (hn : t.wt ≤ 2097152) (x : List UInt8) (hx : (t.Valid ∧ x = t.text) ∨ (¬ t.Valid ∧ x = [])) :
    Calls Tryz.prog 7 #[v] w (StrRet x w) := by
  have HTM := Lib.hid h
  obtain ⟨tp, tc, rp, rc, p, c, rfl, hT⟩ := h
  have HX := Lib.hid (Bx9.new w t tp tc rp rc p c 29)
  have HB := Lib.hid (al_below w (.cells (tmC t tp tc rp rc p c) 29))
  have HKA := Lib.hid hka
  have HP := Lib.hid hp
  have HXX := Lib.hid hx
  clear hT hka hp hx
  go_enter Tryz.func7, Tryz.ntmps7
  go_wp2_with fail
  refine (validTermI_any (HKA.out.below HB.out) (HTM.out.keep HB.out) hn).mono ?_
  rintro e w1 ⟨r, hr, rfl, hb1⟩
  have HB1 := Lib.hid (HB.out.trans (hb1.mono HB.out.size))
  obtain ⟨g0, g1, g2, g3, g4, g5, g6, g7, g8⟩ := HX.out.keep hb1
  clear hb1
  rcases HXX.out with ⟨hi, rfl⟩ | ⟨hi, rfl⟩
  · obtain rfl : r = true := hr.2 hi
    have HC := Lib.hid (txI_yes (HKA.out.below HB1.out) (HP.out.below HB1.out) (HTM.out.keep HB1.out) hn hi.2.2)
    clear hr
    go_wp2_with fail
    refine HC.out.mono ?_
    rintro e w2 ⟨rfl, hb2⟩
    have HB2 := Lib.hid (HB1.out.trans (hb2.mono HB1.out.size))
    clear hb2
    go_wp2_with fail
    go_ret
    exact ⟨rfl, HB2.out⟩
  · obtain rfl : r = false := by
      cases r with
      | false => rfl
      | true => exact absurd (hr.1 rfl) hi
    clear hr
    go_wp2_with fail
    go_ret
    exact ⟨rfl, HB1.out⟩
end Go.Proofs.YtjobmgbchpoheaaGreatDoor
namespace Go.Proofs.YtjobmgbchpoheaaGreatDoor
open Go Go.RowKit

set_option maxRecDepth 100000 in
set_option maxHeartbeats 1000000 in
theorem formOf_any (v0 v1 v2 v3 v4 v5 v6 v7 v8 : Value) (w : World) :
    Calls Tryz.prog 53 #[.agg #[v0, v1, v2, v3, v4, v5, v6, v7, v8]] w fun e w' => e = .returned (fE w.heap.size) ∧ w' = w.alloc (.cells #[v0, v1, v2, v3, v4, v5, v6, v7, v8] 29 (0, 0)) := by
  go_enter Tryz.func53, Tryz.ntmps53
  go_wp2_with fail
  go_ret
  exact ⟨rfl, rfl⟩
theorem al_heap (W : World) (o : Obj) : (W.alloc o).heap = W.heap.push o := rfl
theorem nine (w : World) (o0 o1 o2 o3 o4 o5 o6 o7 o8 : Obj) :
    Below w.heap.size w (((((((((w.alloc o0).alloc o1).alloc o2).alloc o3).alloc o4).alloc o5).alloc o6).alloc o7).alloc o8) ∧
    (((((((((w.alloc o0).alloc o1).alloc o2).alloc o3).alloc o4).alloc o5).alloc o6).alloc o7).alloc o8).heap[w.heap.size + 8]? = some o8 ∧
    (((((((((w.alloc o0).alloc o1).alloc o2).alloc o3).alloc o4).alloc o5).alloc o6).alloc o7).alloc o8).heap[w.heap.size + 0]? = some o0 ∧
    (((((((((w.alloc o0).alloc o1).alloc o2).alloc o3).alloc o4).alloc o5).alloc o6).alloc o7).alloc o8).heap[w.heap.size + 1]? = some o1 ∧
    (((((((((w.alloc o0).alloc o1).alloc o2).alloc o3).alloc o4).alloc o5).alloc o6).alloc o7).alloc o8).heap[w.heap.size + 2]? = some o2 ∧
    (((((((((w.alloc o0).alloc o1).alloc o2).alloc o3).alloc o4).alloc o5).alloc o6).alloc o7).alloc o8).heap[w.heap.size + 3]? = some o3 ∧
    (((((((((w.alloc o0).alloc o1).alloc o2).alloc o3).alloc o4).alloc o5).alloc o6).alloc o7).alloc o8).heap[w.heap.size + 4]? = some o4 ∧
    (((((((((w.alloc o0).alloc o1).alloc o2).alloc o3).alloc o4).alloc o5).alloc o6).alloc o7).alloc o8).heap[w.heap.size + 5]? = some o5 ∧
    (((((((((w.alloc o0).alloc o1).alloc o2).alloc o3).alloc o4).alloc o5).alloc o6).alloc o7).alloc o8).heap[w.heap.size + 6]? = some o6 ∧
    (((((((((w.alloc o0).alloc o1).alloc o2).alloc o3).alloc o4).alloc o5).alloc o6).alloc o7).alloc o8).heap[w.heap.size + 7]? = some o7 := by
  refine ⟨(((((((((Below.refl _ w).alloc (Nat.le_refl _) _).alloc (by simp) _).alloc (by simp; omega) _).alloc (by simp; omega) _).alloc (by simp; omega) _).alloc (by simp; omega) _).alloc (by simp; omega) _).alloc (by simp; omega) _).alloc (by simp; omega) _, ?_, ?_, ?_, ?_, ?_, ?_, ?_, ?_, ?_⟩
  all_goals
    simp only [al_heap, Array.getElem?_push, Array.size_push]
    first
      | rfl
      | (repeat (first | rw [if_pos trivial] | rw [if_pos (by omega)] | rw [if_neg (by omega)]))
set_option maxRecDepth 100000 in
set_option maxHeartbeats 4000000 in
theorem termForms_any (w : World) :
    Calls Tryz.prog 23 #[] w fun e w' => e = .returned (.slice (some ⟨w.heap.size + 8, 0, none⟩) 12 12) ∧ Below w.heap.size w w' ∧ w'.heap[w.heap.size + 8]? = some (.cells (tabC (fun i => w.heap.size + i)) 89 (0, 0)) ∧
      ∀ i, i < 8 → w'.heap[w.heap.size + i]? = some (.cells (tmC (capE i) none 0 none 0 none 0) 29 (0, 0)) := by
  go_enter Tryz.func23, Tryz.ntmps23
  go_wp2_with fail
  refine (formOf_any _ _ _ _ _ _ _ _ _ _).mono ?_
  rintro e w1 ⟨rfl, rfl⟩
  go_wp2_with fail
  refine (formOf_any _ _ _ _ _ _ _ _ _ _).mono ?_
  rintro e w2 ⟨rfl, rfl⟩
  go_wp2_with fail
  refine (formOf_any _ _ _ _ _ _ _ _ _ _).mono ?_
  rintro e w3 ⟨rfl, rfl⟩
  go_wp2_with fail
  refine (formOf_any _ _ _ _ _ _ _ _ _ _).mono ?_
  rintro e w4 ⟨rfl, rfl⟩
  go_wp2_with fail
  refine (formOf_any _ _ _ _ _ _ _ _ _ _).mono ?_
  rintro e w5 ⟨rfl, rfl⟩
  go_wp2_with fail
  refine (formOf_any _ _ _ _ _ _ _ _ _ _).mono ?_
  rintro e w6 ⟨rfl, rfl⟩
  go_wp2_with fail
  refine (formOf_any _ _ _ _ _ _ _ _ _ _).mono ?_
  rintro e w7 ⟨rfl, rfl⟩
  go_wp2_with fail
  refine (formOf_any _ _ _ _ _ _ _ _ _ _).mono ?_
  rintro e w8 ⟨rfl, rfl⟩
  go_wp2_with fail
  go_ret
  obtain ⟨hb, h8, h0, h1, h2, h3, h4, h5, h6, h7⟩ := nine w (.cells (tmC (capE 0) none 0 none 0 none 0) 29 (0, 0)) (.cells (tmC (capE 1) none 0 none 0 none 0) 29 (0, 0)) (.cells (tmC (capE 2) none 0 none 0 none 0) 29 (0, 0)) (.cells (tmC (capE 3) none 0 none 0 none 0) 29 (0, 0)) (.cells (tmC (capE 4) none 0 none 0 none 0) 29 (0, 0)) (.cells (tmC (capE 5) none 0 none 0 none 0) 29 (0, 0)) (.cells (tmC (capE 6) none 0 none 0 none 0) 29 (0, 0)) (.cells (tmC (capE 7) none 0 none 0 none 0) 29 (0, 0)) (.cells (tabC (fun i => w.heap.size + i)) 89 (0, 0))
  refine ⟨rfl, hb, h8, ?_⟩
  intro i hi
  rcases (show i = 0 ∨ i = 1 ∨ i = 2 ∨ i = 3 ∨ i = 4 ∨ i = 5 ∨ i = 6 ∨ i = 7 by omega) with rfl | rfl | rfl | rfl | rfl | rfl | rfl | rfl
  · exact h0
  · exact h1
  · exact h2
  · exact h3
  · exact h4
  · exact h5
  · exact h6
  · exact h7
def ParsedAs (s : List UInt8) (t : Tm) (o : Bool) : Prop := (o = true ∧ parseM s t) ∨ (o = false ∧ t = zeroM ∧ ∀ u, ¬ parseM s u)
theorem parsed_one {s : List UInt8} {t u : Tm} {o p : Bool} (h : ParsedAs s t o) (h2 : ParsedAs s u p) : t = u ∧ o = p := by
  rcases h with ⟨rfl, h⟩ | ⟨rfl, rfl, h⟩ <;> rcases h2 with ⟨rfl, h2⟩ | ⟨rfl, rfl, h2⟩
  · exact ⟨parseM_one h h2, rfl⟩
  · exact absurd h (h2 _)
  · exact absurd h2 (h _)
  · exact ⟨rfl, rfl⟩
theorem read_one {l : List UInt8} {t u : Tm} {k' : Nat} {l' : List UInt8} (h : RT 81 0 l t k' l') (hu : parseM l u) : t = u := by
  obtain ⟨⟨h1, h2, h3⟩, rfl⟩ := hu
  have := rd_text 81 u 0 [] t k' l' h3 (by omega) (by omega) (fun c hc => by simp at hc) (by rw [List.append_nil]; exact h)
  exact this.1
theorem text_some {t : Tm} (h : t.Valid) : t.text ≠ [] := by
  obtain ⟨c, l, e, -⟩ := text_head (shape h.2.2)
  rw [e]
  simp
def ParsedRet (s : List UInt8) (w : World) (e : Ending) (w' : World) : Prop :=
  ∃ t o v, e = .returned (.tuple #[v, .bool o]) ∧ ParsedAs s t o ∧ OMv w' t v (fun z => w.heap.size ≤ z ∧ z < w'.heap.size) ∧ Below w.heap.size w w'
theorem parsed_fin {w W : World} {s : List UInt8} {t : Tm} {tp rp p : Option Addr} {tc rc c : Nat} {o : Bool} (hb : Below w.heap.size w W) (hO : OSt W t.ds (tmL t tp tc rp rc p c) (fun z => w.heap.size + 1 ≤ z ∧ z < W.heap.size)) (ho : ParsedAs s t o) :
    ParsedRet s w (.returned (.tuple #[tmV t tp tc rp rc p c, .bool o])) (((((((((W.setCell ⟨w.heap.size, 0, none⟩ (.int .i64 t.kind)).setCell ⟨w.heap.size, 1, none⟩ (.string t.name)).setCell ⟨w.heap.size, 2, none⟩ (.string t.other)).setCell ⟨w.heap.size, 3, none⟩ (.int .i64 t.n)).setCell ⟨w.heap.size, 4, none⟩ (.int .i64 t.ty.kind)).setCell ⟨w.heap.size, 5, none⟩ (.slice tp t.ty.args.length tc)).setCell ⟨w.heap.size, 6, none⟩ (.int .i64 t.res.kind)).setCell ⟨w.heap.size, 7, none⟩ (.slice rp t.res.args.length rc)).setCell ⟨w.heap.size, 8, none⟩ (.slice p t.args.length c)) := by
  have hbl := set9_below W w.heap.size w.heap.size (.int .i64 t.kind) (.string t.name) (.string t.other) (.int .i64 t.n) (.int .i64 t.ty.kind) (.slice tp t.ty.args.length tc) (.int .i64 t.res.kind) (.slice rp t.res.args.length rc) (.slice p t.args.length c) (Nat.le_refl _)
  have hsz := set9_size W w.heap.size (.int .i64 t.kind) (.string t.name) (.string t.other) (.int .i64 t.n) (.int .i64 t.ty.kind) (.slice tp t.ty.args.length tc) (.int .i64 t.res.kind) (.slice rp t.res.args.length rc) (.slice p t.args.length c)
  have hst := set9_stays W w.heap.size (.int .i64 t.kind) (.string t.name) (.string t.other) (.int .i64 t.n) (.int .i64 t.ty.kind) (.slice tp t.ty.args.length tc) (.int .i64 t.res.kind) (.slice rp t.res.args.length rc) (.slice p t.args.length c) (fun z => w.heap.size + 1 ≤ z ∧ z < W.heap.size) (fun h => by have := h.1; omega)
  exact ⟨t, o, _, rfl, ho, ⟨tp, tc, rp, rc, p, c, rfl, (hO.stays hst).mono (fun z hz => ⟨by omega, by rw [hsz]; exact hz.2⟩)⟩, hb.trans hbl⟩
set_option maxRecDepth 100000 in
set_option maxHeartbeats 8000000 in
theorem parseTermI_any (s : ByteArray) (hs : s.size ≤ 1048576) (w : World) (hka : KA w) (he : Env w) : Calls Tryz.prog 8 #[.string s] w (ParsedRet s.data.toList w) := by
  obtain ⟨w0, hw0, hs0, hb0, r0⟩ := box_new w zeroC 29
  have HS0 := Lib.hid hs0
  have HB0 := Lib.hid hb0
  have R0 := Lib.hid r0
  have HKA := Lib.hid hka
  have HE := Lib.hid he
  have hl : Small s.data.toList := by simpa using hs
  have HL := Lib.hid hl
  clear hs0 hb0 r0 hka he hl
  go_enter Tryz.func8, Tryz.ntmps8
  go_wp2_with fail
  refine (termForms_any _).mono ?_
  rintro e w1 ⟨rfl, hb1, ht1, hc1⟩
  obtain ⟨w2, hw2, hs2, hb2, r2⟩ := box_new w1 #[.string s, .int .i64 0, .slice (some ⟨w0.heap.size + 8, 0, none⟩) 12 12] 45
  have hz1 := hb1.size
  have hsz0 := HS0.out
  have htl := (Array.getElem?_eq_some_iff.1 ht1).1
  have hr2 : Rdr w1.heap.size (w0.heap.size + 8) (fun i => w0.heap.size + i) s.data.toList 0 w2 :=
    ⟨r2, (hb2.block _ htl).trans ht1, fun i hi => (hb2.block _ (Array.getElem?_eq_some_iff.1 (hc1 i hi)).1).trans (hc1 i hi), by omega, fun i hi => by omega,
      ⟨w, HE.out, by omega, HB0.out.trans ((hb1.mono (by omega)).trans (hb2.mono (by omega)))⟩⟩
  have HB2 := Lib.hid ((HB0.out.trans (hb1.mono (by omega))).trans (hb2.mono (by omega)))
  have HT := Lib.hid (term_any 81 0 (by omega) 0 s.data.toList w2 (Nat.le_refl _) (by unfold Pot; omega) HL.out hr2)
  have ho2 := (hb2.block w.heap.size (by omega)).trans ((hb1.block w.heap.size (by omega)).trans R0.out)
  have HO2 := Lib.hid ho2
  have HN := Lib.hid (show w.heap.size + 1 ≤ w1.heap.size ∧ w2.heap.size = w1.heap.size + 1 from ⟨by omega, hs2⟩)
  clear hb1 ht1 hc1 hs2 hb2 r2 hz1 hsz0 htl hr2 ho2
  go_wp2_with fail
  refine HT.out.mono ?_
  rintro e w3 ⟨hg3, t, k3, l3, v3, rfl, hF3, ⟨tp, tc, rp, rc, p, c, rfl, hO3⟩, hr3⟩
  have hwt := RT_top hF3 HL.out
  have hne : (some w.heap.size : Option Nat) ≠ some w1.heap.size := fun e => by have := HN.out.1; have := Option.some.inj e; omega
  have hsz2 := HN.out.2
  have hz2 := HB2.out.size
  have hz3 := hg3.size
  have hn1 := HN.out.1
  have ho3 := (hg3.block w.heap.size (by omega) hne).trans HO2.out
  have hb3 : Below w.heap.size w w3 := ⟨hg3.os.trans HB2.out.os, hg3.tape.trans HB2.out.tape, hg3.output.trans HB2.out.output, by omega, fun z hz => (hg3.block z (by omega) (fun e => by have := Option.some.inj e; have := HN.out.1; omega)).trans (HB2.out.block z hz)⟩
  obtain ⟨w4, hw4, hs4, hb4, r4⟩ := box_new w3 (tmC t tp tc rp rc p c) 29
  have HB4 := Lib.hid (hb3.trans (hb4.mono (by omega)))
  have ho4 := (hb4.block w.heap.size (by omega)).trans ho3
  have hO4 := hO3.keep hb4
  obtain ⟨g0, g1, g2, g3, g4, g5, g6, g7, g8⟩ := Bx9.of r4
  have hke : Below w.heap.size w w4 := HB4.out
  have hv : ∃ x : List UInt8, (t.Valid ∧ x = t.text) ∨ (¬ t.Valid ∧ x = []) := by
    by_cases h : t.Valid
    · exact ⟨_, Or.inl ⟨h, rfl⟩⟩
    · exact ⟨_, Or.inr ⟨h, rfl⟩⟩
  obtain ⟨x, hx⟩ := hv
  have HX := Lib.hid hx
  have HF := Lib.hid (fmtTermI_any (HKA.out.below hke) (HE.out.below hke).1 (⟨tp, tc, rp, rc, p, c, rfl, hO4.tm⟩ : TM w4 _ t (tmV t tp tc rp rc p c)) hwt x hx)
  have HF3 := Lib.hid hF3
  have HO4 := Lib.hid (hO4.mono (F' := fun z => w.heap.size + 1 ≤ z ∧ z < w4.heap.size) (fun z hz => ⟨by have := HN.out.1; omega, by omega⟩))
  have H4 := Lib.hid ho4
  have R4 := Lib.hid r4
  clear hg3 hF3 hO3 hr3 hwt hne hsz2 hz2 hz3 ho3 hb3 hs4 hb4 ho4 hO4 hke hx r4 hn1
  go_wp2_with fail
  refine HF.out.mono ?_
  rintro e w5 ⟨rfl, hb5⟩
  have HB5 := Lib.hid (HB4.out.trans (hb5.mono HB4.out.size))
  have ho5 := (hb5.block w.heap.size (Array.getElem?_eq_some_iff.1 H4.out).1).trans H4.out
  have hr5 := (hb5.block w3.heap.size (Array.getElem?_eq_some_iff.1 R4.out).1).trans R4.out
  obtain ⟨g0, g1, g2, g3, g4, g5, g6, g7, g8⟩ := Bx9.of hr5
  have HO5 := Lib.hid ((HO4.out.keep hb5).mono (F' := fun z => w.heap.size + 1 ≤ z ∧ z < w5.heap.size) (fun z hz => ⟨hz.1, by have := hb5.size; omega⟩))
  have r0 := cell_of_blk ho5 0
  have r1 := cell_of_blk ho5 1
  have r2 := cell_of_blk ho5 2
  have r3 := cell_of_blk ho5 3
  have r4 := cell_of_blk ho5 4
  have r5 := cell_of_blk ho5 5
  have r6 := cell_of_blk ho5 6
  have r7 := cell_of_blk ho5 7
  have r8 := cell_of_blk ho5 8
  have rz := unfrozen_of_blk ho5
  simp only [List.getElem?_toArray, List.getElem?_cons_zero, List.getElem?_cons_succ] at r0 r1 r2 r3 r4 r5 r6 r7 r8
  clear hb5 ho5 hr5 hw4 hw2 hw0
  have hno : ¬ (x ≠ [] ∧ x = s.data.toList) → ∀ u, ¬ parseM s.data.toList u := by
    intro h u hu
    have e := read_one HF3.out hu
    rw [← e] at hu
    rcases HX.out with ⟨hv, rfl⟩ | ⟨hv, _⟩
    · exact h ⟨text_some hv, hu.2⟩
    · exact hv hu.1
  have HNO := Lib.hid hno
  clear hno
  by_cases h1 : x = []
  · have hc1 : (x == []) = true := by rw [h1]; rfl
    have HN1 := Lib.hid (HNO.out (fun h => h.1 h1))
    clear h1
    go_wp2_with fail
    refine bodyPost_ret (v := .tuple #[tmV zeroM none 0 none 0 none 0, .bool false]) ?_ rfl ?_
    · rw [results_cs rfl]
      clear g0 g1 g2 g3 g4 g5 g6 g7 g8 hc1 hs
      go_simp
      all_goals (repeat' apply And.intro) <;> rfl
    · exact parsed_fin (t := zeroM) HB5.out (zero_os _ _) (Or.inr ⟨rfl, rfl, HN1.out⟩)
  · have hc1 : (x == []) = false := by simpa using h1
    by_cases h2 : x = s.data.toList
    · have hc2 : (x == s.toList) = true := by rw [ByteArray.toList_eq, ← h2]; simp
      have hpm : parseM s.data.toList t := by
        rcases HX.out with ⟨hv, h3⟩ | ⟨hv, h3⟩
        · exact ⟨hv, by rw [← h3, h2]⟩
        · exact absurd h3 h1
      have HPM := Lib.hid hpm
      clear h1 h2 hpm
      go_wp2_with fail
      refine bodyPost_ret (v := .tuple #[tmV t tp tc rp rc p c, .bool true]) ?_ rfl ?_
      · rw [results_cs rfl]
        clear g0 g1 g2 g3 g4 g5 g6 g7 g8 hc1 hc2 hs
        go_simp
        all_goals (first | rfl | ((repeat' apply And.intro) <;> rfl))
      · exact parsed_fin HB5.out HO5.out (Or.inl ⟨rfl, HPM.out⟩)
    · have hc2 : (x == s.toList) = false := by rw [ByteArray.toList_eq]; simpa using h2
      have HN1 := Lib.hid (HNO.out (fun h => h2 h.2))
      clear h1 h2
      go_wp2_with fail
      refine bodyPost_ret (v := .tuple #[tmV zeroM none 0 none 0 none 0, .bool false]) ?_ rfl ?_
      · rw [results_cs rfl]
        clear g0 g1 g2 g3 g4 g5 g6 g7 g8 hc1 hc2 hs
        go_simp
        all_goals (repeat' apply And.intro) <;> rfl
      · exact parsed_fin (t := zeroM) HB5.out (zero_os _ _) (Or.inr ⟨rfl, rfl, HN1.out⟩)
end Go.Proofs.YtjobmgbchpoheaaGreatDoor
namespace Go.Proofs.YtjobmgbchpoheaaGreatDoor
open Go Go.RowKit

variable {C : Nat → Prop} {t : Tm} {v : Value} {w : World}
end Go.Proofs.YtjobmgbchpoheaaGreatDoor
