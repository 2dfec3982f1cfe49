/-
  Several texts of the proof in one (each says below what it holds): RdI8.
-/
import Derived.Test.YtjobmgbchpoheaaGreatDoorPB31
import Derived.Test.YtjobmgbchpoheaaGreatDoorPB32
namespace Go.Proofs.YtjobmgbchpoheaaGreatDoor
open Go Go.RowKit
def Past (F : RdF) (k : Nat) (l : List UInt8) (i : Nat) : Prop := ∀ t k' l', rdForm F (forms.drop i) k l t k' l' → rdForm F forms k l t k' l'
theorem past_hit {F : RdF} {k : Nat} {l q : List UInt8} {i : Nat} {R : RdF → RdF} {fs : List (List UInt8 × (RdF → RdF))} (h : Past F k l i) (hd : forms.drop i = (q, R) :: fs) (hq : q.isPrefixOf l = true) {t : Tm} {k' : Nat} {l' : List UInt8} (hR : R F k (cut q l) t k' l') : rdForm F forms k l t k' l' := by
  refine h t k' l' ?_
  rw [hd]
  unfold rdForm
  rw [if_pos hq]
  unfold cut at hR
  rwa [if_pos hq] at hR
theorem past_miss {F : RdF} {k : Nat} {l q : List UInt8} {i : Nat} {R : RdF → RdF} {fs : List (List UInt8 × (RdF → RdF))} (h : Past F k l i) (hd : forms.drop i = (q, R) :: fs) (hd2 : forms.drop (i + 1) = fs) (hq : q.isPrefixOf l = false) : Past F k l (i + 1) := by
  intro t k' l' h2
  refine h t k' l' ?_
  rw [hd]
  unfold rdForm
  rw [if_neg (by rw [hq]; decide)]
  rw [hd2] at h2
  exact h2
theorem cut_no {q l : List UInt8} (hq : q.isPrefixOf l = false) : cut q l = l := by
  unfold cut
  rw [if_neg (by rw [hq]; decide)]
theorem zero_os (w : World) (F : Nat → Prop) : OSt w zeroM.ds (tmL zeroM none 0 none 0 none 0) F := OSt9 (os_nil w (fun _ => False)) (os_nil w (fun _ => False)) (.nil _ _ (fun _ => False)) (fun _ hz => hz.elim) (fun _ hz => hz.elim) (fun _ hz => hz.elim)
theorem word_os (w : World) (F : Nat → Prop) (kk : Int) (a : ByteArray) (n : Int) : OSt w (Tm.mk kk a E0 n Z0 Z0 []).ds (tmL (Tm.mk kk a E0 n Z0 Z0 []) none 0 none 0 none 0) F := OSt9 (os_nil w (fun _ => False)) (os_nil w (fun _ => False)) (.nil _ _ (fun _ => False)) (fun _ hz => hz.elim) (fun _ hz => hz.elim) (fun _ hz => hz.elim)
structure TL (F : RdF) (R FB : Nat) (E : Nat → Nat) (l : List UInt8) (k : Nat) (w : World) (i : Nat) (W : World) : Prop where
  past : Past F k l i
  rd : Rdr R FB E l k W
  out : W.heap[w.heap.size]? = some (.cells zeroC 29 (0, 0))
  grown : w.grownBy W (some R)
theorem TL.below {F : RdF} {R FB : Nat} {E : Nat → Nat} {l : List UInt8} {k i : Nat} {w W W' : World} (h : TL F R FB E l k w i W) (hb : Below W.heap.size W W') : TL F R FB E l k w i W' :=
  ⟨h.past, h.rd.below hb, (hb.block _ (Array.getElem?_eq_some_iff.1 h.out).1).trans h.out, gb_more h.grown h.grown.size hb⟩

set_option maxRecDepth 100000 in
set_option maxHeartbeats 1000000 in
theorem term_full (Rl : RdF) {R FB : Nat} {E : Nat → Nat} (l : List UInt8) (k : Nat) (w : World) (hk : 80 ≤ k) (hk2 : k ≤ 100000) (hr : Rdr R FB E l k w) (hRl : Rl k l zeroM (k + 1) l) :
    Calls Tryz.prog 24 #[.pointer (some ⟨R, 0, none⟩)] w (FormRet Rl R FB E w.heap.size l k w) := by
  obtain ⟨w0, hw0, hs0, hb0, r0⟩ := box_new w zeroC 29
  have HU := Lib.hid hr.under
  have hr0 := hr.below hb0
  obtain ⟨c0, c1, c2, cz⟩ := hr0.cells
  obtain ⟨hp1, hp2⟩ := hr0.tick (k + 1)
  rw [show ((k + 1 : Nat) : Int) = (k : Int) + 1 by omega] at hp1 hp2
  obtain ⟨w1, hw1⟩ : ∃ w1, w0.setCell ⟨R, 1, none⟩ (.int .i64 ((k : Int) + 1)) = w1 := ⟨_, rfl⟩
  rw [hw1] at hp1 hp2
  obtain ⟨e0, e1, e2, ez⟩ := hp1.cells
  rw [show ((k + 1 : Nat) : Int) = (k : Int) + 1 by omega] at e1
  have hne : (some w.heap.size : Option Nat) ≠ some R := fun e => by have := HU.out.1; have := Option.some.inj e; omega
  have ho1 := (hp2.block w.heap.size (by omega) hne).trans r0
  have r0 := cell_of_blk ho1 0
  have r1 := cell_of_blk ho1 1
  have r2 := cell_of_blk ho1 2
  have r3 := cell_of_blk ho1 3
  have r4 := cell_of_blk ho1 4
  have r5 := cell_of_blk ho1 5
  have r6 := cell_of_blk ho1 6
  have r7 := cell_of_blk ho1 7
  have r8 := cell_of_blk ho1 8
  have rz := unfrozen_of_blk ho1
  simp only [List.getElem?_toArray, List.getElem?_cons_zero, List.getElem?_cons_succ] at r0 r1 r2 r3 r4 r5 r6 r7 r8
  have i0 : (80 : Int) < (k : Int) + 1 := by omega
  have i2 : (k : Int) + 1 ≤ 9223372036854775807 := by omega
  have HX := Lib.hid (And.intro hp1 (grownBy_trans (gb_below hb0 (some R)) hp2))
  clear hr hr0 hp1 hp2 hb0 ho1 hne hs0
  go_enter Tryz.func24, Tryz.ntmps24
  go_wp2_with fail
  refine bodyPost_ret (v := tmV zeroM none 0 none 0 none 0) ?_ rfl ?_
  · rw [results_cell1 rfl]
    go_simp
    all_goals (repeat' apply And.intro) <;> rfl
  · exact form_out (t := zeroM) HU.out HX.out.2 hRl (zero_os _ _) HX.out.1
set_option maxRecDepth 100000 in
set_option maxHeartbeats 8000000 in
theorem term_step (D : Nat) {R FB : Nat} {E : Nat → Nat} (l : List UInt8) (k : Nat) (w : World) (hk : ¬ 80 ≤ k) (_hP : Pot k 1000) (hl : Small l) (hOk : TermOk (RT D) R FB E (k + 1)) (hr : Rdr R FB E l k w) :
    Calls Tryz.prog 24 #[.pointer (some ⟨R, 0, none⟩)] w (FormRet (RT (D + 1)) R FB E w.heap.size l k w) := by
  obtain ⟨w0, hw0, hs0, hb0, r0⟩ := box_new w zeroC 29
  have HU := Lib.hid hr.under
  have hr0 := hr.below hb0
  obtain ⟨c0, c1, c2, cz⟩ := hr0.cells
  obtain ⟨hp1, hp2⟩ := hr0.tick (k + 1)
  rw [show ((k + 1 : Nat) : Int) = (k : Int) + 1 by omega] at hp1 hp2
  obtain ⟨w1, hw1⟩ : ∃ w1, w0.setCell ⟨R, 1, none⟩ (.int .i64 ((k : Int) + 1)) = w1 := ⟨_, rfl⟩
  rw [hw1] at hp1 hp2
  obtain ⟨e0, e1, e2, ez⟩ := hp1.cells
  rw [show ((k + 1 : Nat) : Int) = (k : Int) + 1 by omega] at e1
  have hne : (some w.heap.size : Option Nat) ≠ some R := fun e => by have := HU.out.1; have := Option.some.inj e; omega
  have ho1 := (hp2.block w.heap.size (by omega) hne).trans r0
  have hP1 : Pot (k + 1) 998 := by unfold Pot at *; omega
  have HREL := Lib.hid (fun t k' l' (h : rdForm (RT D) forms (k + 1) l t k' l') => show RT (D + 1) k l t k' l' by unfold RT; rw [if_neg hk]; exact h)
  have HTL0 : Hid (TL (RT D) R FB E l (k + 1) w 0 w1) := Lib.hid ⟨fun t k' l' h => h, hp1, ho1, grownBy_trans (gb_below hb0 (some R)) hp2⟩
  have HRD := Lib.hid hp1
  have HHL := Lib.hid hl
  have HF0 := Lib.hid (fun (W : World) (h1 : Small (cut [35, 102] l)) (h2 : Rdr R FB E (cut [35, 102] l) (k + 1) W) => (cap_any (RT_bd D) hOk 0 (by decide) 3 E0 0 rfl (by decide) (by decide) _ (k + 1) W (Nat.le_refl _) hP1 h1 h2 : Calls Tryz.prog 94 #[.pointer (some ⟨R, 0, none⟩), .pointer (some ⟨E 0, 0, none⟩)] W (FormRet (rdW (RT D) (capE 0)) R FB E W.heap.size (cut [35, 102] l) (k + 1) W)))
  have HF1 := Lib.hid (fun (W : World) (h1 : Small (cut [35, 116] l)) (h2 : Rdr R FB E (cut [35, 116] l) (k + 1) W) => (cap_any (RT_bd D) hOk 1 (by decide) 3 E0 1 rfl (by decide) (by decide) _ (k + 1) W (Nat.le_refl _) hP1 h1 h2 : Calls Tryz.prog 94 #[.pointer (some ⟨R, 0, none⟩), .pointer (some ⟨E 1, 0, none⟩)] W (FormRet (rdW (RT D) (capE 1)) R FB E W.heap.size (cut [35, 116] l) (k + 1) W)))
  have HF2 := Lib.hid (fun (W : World) (h1 : Small (cut [60] l)) (h2 : Rdr R FB E (cut [60] l) (k + 1) W) => (cap_any (RT_bd D) hOk 2 (by decide) 10 E0 0 rfl (by decide) (by decide) _ (k + 1) W (Nat.le_refl _) hP1 h1 h2 : Calls Tryz.prog 94 #[.pointer (some ⟨R, 0, none⟩), .pointer (some ⟨E 2, 0, none⟩)] W (FormRet (rdW (RT D) (capE 2)) R FB E W.heap.size (cut [60] l) (k + 1) W)))
  have HF3 := Lib.hid (fun (W : World) (h1 : Small (cut [126] l)) (h2 : Rdr R FB E (cut [126] l) (k + 1) W) => (cap_any (RT_bd D) hOk 3 (by decide) 11 E0 0 rfl (by decide) (by decide) _ (k + 1) W (Nat.le_refl _) hP1 h1 h2 : Calls Tryz.prog 94 #[.pointer (some ⟨R, 0, none⟩), .pointer (some ⟨E 3, 0, none⟩)] W (FormRet (rdW (RT D) (capE 3)) R FB E W.heap.size (cut [126] l) (k + 1) W)))
  have HF4 := Lib.hid (fun (W : World) (h1 : Small (cut [40, 33] l)) (h2 : Rdr R FB E (cut [40, 33] l) (k + 1) W) => (cap_any (RT_bd D) hOk 4 (by decide) 4 ⟨#[33]⟩ 0 rfl (by decide) (by decide) _ (k + 1) W (Nat.le_refl _) hP1 h1 h2 : Calls Tryz.prog 94 #[.pointer (some ⟨R, 0, none⟩), .pointer (some ⟨E 4, 0, none⟩)] W (FormRet (rdW (RT D) (capE 4)) R FB E W.heap.size (cut [40, 33] l) (k + 1) W)))
  have HF5 := Lib.hid (fun (W : World) (h1 : Small (cut [40, 105, 102, 32] l)) (h2 : Rdr R FB E (cut [40, 105, 102, 32] l) (k + 1) W) => (cap_any (RT_bd D) hOk 5 (by decide) 5 E0 0 rfl (by decide) (by decide) _ (k + 1) W (Nat.le_refl _) hP1 h1 h2 : Calls Tryz.prog 94 #[.pointer (some ⟨R, 0, none⟩), .pointer (some ⟨E 5, 0, none⟩)] W (FormRet (rdW (RT D) (capE 5)) R FB E W.heap.size (cut [40, 105, 102, 32] l) (k + 1) W)))
  have HF6 := Lib.hid (fun (W : World) (h1 : Small (cut [40, 114, 117, 110, 32] l)) (h2 : Rdr R FB E (cut [40, 114, 117, 110, 32] l) (k + 1) W) => (cap_any (RT_bd D) hOk 6 (by decide) 12 E0 0 rfl (by decide) (by decide) _ (k + 1) W (Nat.le_refl _) hP1 h1 h2 : Calls Tryz.prog 94 #[.pointer (some ⟨R, 0, none⟩), .pointer (some ⟨E 6, 0, none⟩)] W (FormRet (rdW (RT D) (capE 6)) R FB E W.heap.size (cut [40, 114, 117, 110, 32] l) (k + 1) W)))
  have HF7 := Lib.hid (fun (W : World) (h1 : Small (cut [40, 108, 105, 102, 116, 32] l)) (h2 : Rdr R FB E (cut [40, 108, 105, 102, 116, 32] l) (k + 1) W) => (cap_any (RT_bd D) hOk 7 (by decide) 13 E0 0 rfl (by decide) (by decide) _ (k + 1) W (Nat.le_refl _) hP1 h1 h2 : Calls Tryz.prog 94 #[.pointer (some ⟨R, 0, none⟩), .pointer (some ⟨E 7, 0, none⟩)] W (FormRet (rdW (RT D) (capE 7)) R FB E W.heap.size (cut [40, 108, 105, 102, 116, 32] l) (k + 1) W)))
  have HF8 := Lib.hid (fun (W : World) (h1 : Small (cut [40, 108, 101, 116, 32] l)) (h2 : Rdr R FB E (cut [40, 108, 101, 116, 32] l) (k + 1) W) => (let_any (RT_bd D) hOk _ (k + 1) W (Nat.le_refl _) hP1 h1 h2 : Calls Tryz.prog 54 #[.pointer (some ⟨R, 0, none⟩)] W (FormRet (rdLet (RT D)) R FB E W.heap.size (cut [40, 108, 101, 116, 32] l) (k + 1) W)))
  have HF9 := Lib.hid (fun (W : World) (h1 : Small (cut [40, 114, 101, 99, 32] l)) (h2 : Rdr R FB E (cut [40, 114, 101, 99, 32] l) (k + 1) W) => (rec_any (RT_bd D) hOk _ (k + 1) W (Nat.le_refl _) hP1 h1 h2 : Calls Tryz.prog 55 #[.pointer (some ⟨R, 0, none⟩)] W (FormRet (rdRec (RT D)) R FB E W.heap.size (cut [40, 114, 101, 99, 32] l) (k + 1) W)))
  have HF10 := Lib.hid (fun (W : World) (h1 : Small (cut [40, 92] l)) (h2 : Rdr R FB E (cut [40, 92] l) (k + 1) W) => (lam_any (RT_bd D) hOk _ (k + 1) W (Nat.le_refl _) hP1 h1 h2 : Calls Tryz.prog 56 #[.pointer (some ⟨R, 0, none⟩)] W (FormRet (rdLam (RT D)) R FB E W.heap.size (cut [40, 92] l) (k + 1) W)))
  have HF11 := Lib.hid (fun (W : World) (h1 : Small (cut [40] l)) (h2 : Rdr R FB E (cut [40] l) (k + 1) W) => (pair_any (RT_bd D) hOk _ (k + 1) W (Nat.le_refl _) hP1 h1 h2 : Calls Tryz.prog 57 #[.pointer (some ⟨R, 0, none⟩)] W (FormRet (rdPair (RT D)) R FB E W.heap.size (cut [40] l) (k + 1) W)))
  have i0 : ¬ (80 : Int) < (k : Int) + 1 := by omega
  have i2 : (k : Int) + 1 ≤ 9223372036854775807 := by omega
  clear hr hr0 hp1 hp2 hb0 ho1 hs0 hOk hP1 _hP
  go_enter Tryz.func24, Tryz.ntmps24
  go_wp2_with fail
  go_loopw [26] (fun v wr => ∃ i : Nat, i ≤ 12 ∧ v = .int .i64 i ∧ TL (RT D) R FB E l (k + 1) w i wr) (fun v _ => 12 - (intOf v).toNat)
  case atStart => exact ⟨0, Nat.zero_le _, rfl, HTL0.out⟩
  case round =>
    obtain ⟨i, hi12, rfl, hTL⟩ := hrel
    have HTL := Lib.hid hTL
    have htab := hTL.rd.tab
    clear hTL
    by_cases hlt : i < 12
    · rcases (show i = 0 ∨ i = 1 ∨ i = 2 ∨ i = 3 ∨ i = 4 ∨ i = 5 ∨ i = 6 ∨ i = 7 ∨ i = 8 ∨ i = 9 ∨ i = 10 ∨ i = 11 by omega) with rfl | rfl | rfl | rfl | rfl | rfl | rfl | rfl | rfl | rfl | rfl | rfl
      · have t0 : wr.cell? ⟨FB, 0, none⟩ = some (.string ⟨#[35, 102]⟩) := cell_of_blk htab 0
        have t1 : wr.cell? ⟨FB, 1, none⟩ = some (fE (E 0)) := cell_of_blk htab 1
        obtain ⟨wf, hwf, hsf, hbf, rf⟩ := box_new wr #[.string ⟨#[35, 102]⟩, fE (E 0)] 89
        have hTL2 := HTL.out.below hbf
        obtain ⟨b, hb⟩ : ∃ b, List.isPrefixOf [35, 102] l = b := ⟨_, rfl⟩
        have hsk := skip_any [35, 102] hTL2.rd
        rw [hb] at hsk
        have HSK := Lib.hid hsk
        have HB := Lib.hid hb
        have HTL2 := Lib.hid hTL2
        have HRF := Lib.hid rf
        have hRf : wr.heap.size ≠ R := fun e => by have := HTL.out.rd.lt; omega
        have HWF := Lib.hid hwf
        clear htab hTL2 hsk hb hbf rf hwf
        go_wp2_with fail
        have hwf := HWF.out
        rw [hwf]
        clear hwf
        refine HSK.out.mono ?_
        rintro e w2 ⟨rfl, hr2, hg2⟩
        have f1 : w2.cell? ⟨wr.heap.size, 1, none⟩ = some (fE (E 0)) := cell_of_blk ((hg2.block _ (by omega) (fun e => hRf (Option.some.inj e))).trans HRF.out) 1
        have ho2 := (hg2.block w.heap.size (Array.getElem?_eq_some_iff.1 HTL2.out.out).1 hne).trans HTL2.out.out
        cases b with
        | false =>
          have HN : Hid (TL (RT D) R FB E l (k + 1) w (0 + 1) w2) := Lib.hid (by
            rw [cut_no HB.out] at hr2
            exact ⟨past_miss HTL.out.past rfl rfl HB.out, hr2, ho2, grownBy_trans HTL2.out.grown hg2⟩)
          clear hr2 hg2 ho2 f1
          go_wp2_with fail
          go_roundw
          case rel => exact ⟨0 + 1, by omega, by go_num, HN.out⟩
          case measure => simp [intOf]
        | true =>
          have HC := Lib.hid (HF0.out w2 (small_cut HHL.out) hr2)
          have HO2 := Lib.hid ho2
          have HG2 := Lib.hid (grownBy_trans HTL2.out.grown hg2)
          clear hr2 hg2 ho2
          go_wp2_with fail
          refine HC.out.mono ?_
          rintro e w3 ⟨hg3, x, k3, l3, v3, rfl, hR3, ⟨tp, tc, rp, rc, p, c, rfl, hO3⟩, hr3⟩
          have ho3 := (hg3.block w.heap.size (Array.getElem?_eq_some_iff.1 HO2.out).1 hne).trans HO2.out
          have r0 := cell_of_blk ho3 0
          have r1 := cell_of_blk ho3 1
          have r2 := cell_of_blk ho3 2
          have r3 := cell_of_blk ho3 3
          have r4 := cell_of_blk ho3 4
          have r5 := cell_of_blk ho3 5
          have r6 := cell_of_blk ho3 6
          have r7 := cell_of_blk ho3 7
          have r8 := cell_of_blk ho3 8
          have rz := unfrozen_of_blk ho3
          simp only [List.getElem?_toArray, List.getElem?_cons_zero, List.getElem?_cons_succ] at r0 r1 r2 r3 r4 r5 r6 r7 r8
          have HX := Lib.hid (And.intro (grownBy_trans HG2.out hg3) (And.intro hR3 (And.intro hO3 hr3)))
          clear hg3 hR3 hO3 hr3 ho3 f1
          go_wp2_with fail
          refine bodyPost_ret (v := tmV x tp tc rp rc p c) ?_ rfl ?_
          · rw [results_cell1 rfl]
            go_simp
            all_goals (repeat' apply And.intro) <;> rfl
          · obtain ⟨x1, x2, x3, x4⟩ := HX.out
            exact form_out HU.out x1 (HREL.out _ _ _ (past_hit HTL.out.past rfl HB.out x2)) (x3.mono (fun z hz => ⟨by have := HG2.out.size; have := (Array.getElem?_eq_some_iff.1 HO2.out).1; omega, hz.2⟩)) x4
      · have t0 : wr.cell? ⟨FB, 2, none⟩ = some (.string ⟨#[35, 116]⟩) := cell_of_blk htab 2
        have t1 : wr.cell? ⟨FB, 3, none⟩ = some (fE (E 1)) := cell_of_blk htab 3
        obtain ⟨wf, hwf, hsf, hbf, rf⟩ := box_new wr #[.string ⟨#[35, 116]⟩, fE (E 1)] 89
        have hTL2 := HTL.out.below hbf
        obtain ⟨b, hb⟩ : ∃ b, List.isPrefixOf [35, 116] l = b := ⟨_, rfl⟩
        have hsk := skip_any [35, 116] hTL2.rd
        rw [hb] at hsk
        have HSK := Lib.hid hsk
        have HB := Lib.hid hb
        have HTL2 := Lib.hid hTL2
        have HRF := Lib.hid rf
        have hRf : wr.heap.size ≠ R := fun e => by have := HTL.out.rd.lt; omega
        have HWF := Lib.hid hwf
        clear htab hTL2 hsk hb hbf rf hwf
        go_wp2_with fail
        have hwf := HWF.out
        rw [hwf]
        clear hwf
        refine HSK.out.mono ?_
        rintro e w2 ⟨rfl, hr2, hg2⟩
        have f1 : w2.cell? ⟨wr.heap.size, 1, none⟩ = some (fE (E 1)) := cell_of_blk ((hg2.block _ (by omega) (fun e => hRf (Option.some.inj e))).trans HRF.out) 1
        have ho2 := (hg2.block w.heap.size (Array.getElem?_eq_some_iff.1 HTL2.out.out).1 hne).trans HTL2.out.out
        cases b with
        | false =>
          have HN : Hid (TL (RT D) R FB E l (k + 1) w (1 + 1) w2) := Lib.hid (by
            rw [cut_no HB.out] at hr2
            exact ⟨past_miss HTL.out.past rfl rfl HB.out, hr2, ho2, grownBy_trans HTL2.out.grown hg2⟩)
          clear hr2 hg2 ho2 f1
          go_wp2_with fail
          go_roundw
          case rel => exact ⟨1 + 1, by omega, by go_num, HN.out⟩
          case measure => simp [intOf]
        | true =>
          have HC := Lib.hid (HF1.out w2 (small_cut HHL.out) hr2)
          have HO2 := Lib.hid ho2
          have HG2 := Lib.hid (grownBy_trans HTL2.out.grown hg2)
          clear hr2 hg2 ho2
          go_wp2_with fail
          refine HC.out.mono ?_
          rintro e w3 ⟨hg3, x, k3, l3, v3, rfl, hR3, ⟨tp, tc, rp, rc, p, c, rfl, hO3⟩, hr3⟩
          have ho3 := (hg3.block w.heap.size (Array.getElem?_eq_some_iff.1 HO2.out).1 hne).trans HO2.out
          have r0 := cell_of_blk ho3 0
          have r1 := cell_of_blk ho3 1
          have r2 := cell_of_blk ho3 2
          have r3 := cell_of_blk ho3 3
          have r4 := cell_of_blk ho3 4
          have r5 := cell_of_blk ho3 5
          have r6 := cell_of_blk ho3 6
          have r7 := cell_of_blk ho3 7
          have r8 := cell_of_blk ho3 8
          have rz := unfrozen_of_blk ho3
          simp only [List.getElem?_toArray, List.getElem?_cons_zero, List.getElem?_cons_succ] at r0 r1 r2 r3 r4 r5 r6 r7 r8
          have HX := Lib.hid (And.intro (grownBy_trans HG2.out hg3) (And.intro hR3 (And.intro hO3 hr3)))
          clear hg3 hR3 hO3 hr3 ho3 f1
          go_wp2_with fail
          refine bodyPost_ret (v := tmV x tp tc rp rc p c) ?_ rfl ?_
          · rw [results_cell1 rfl]
            go_simp
            all_goals (repeat' apply And.intro) <;> rfl
          · obtain ⟨x1, x2, x3, x4⟩ := HX.out
            exact form_out HU.out x1 (HREL.out _ _ _ (past_hit HTL.out.past rfl HB.out x2)) (x3.mono (fun z hz => ⟨by have := HG2.out.size; have := (Array.getElem?_eq_some_iff.1 HO2.out).1; omega, hz.2⟩)) x4
      · have t0 : wr.cell? ⟨FB, 4, none⟩ = some (.string ⟨#[60]⟩) := cell_of_blk htab 4
        have t1 : wr.cell? ⟨FB, 5, none⟩ = some (fE (E 2)) := cell_of_blk htab 5
        obtain ⟨wf, hwf, hsf, hbf, rf⟩ := box_new wr #[.string ⟨#[60]⟩, fE (E 2)] 89
        have hTL2 := HTL.out.below hbf
        obtain ⟨b, hb⟩ : ∃ b, List.isPrefixOf [60] l = b := ⟨_, rfl⟩
        have hsk := skip_any [60] hTL2.rd
        rw [hb] at hsk
        have HSK := Lib.hid hsk
        have HB := Lib.hid hb
        have HTL2 := Lib.hid hTL2
        have HRF := Lib.hid rf
        have hRf : wr.heap.size ≠ R := fun e => by have := HTL.out.rd.lt; omega
        have HWF := Lib.hid hwf
        clear htab hTL2 hsk hb hbf rf hwf
        go_wp2_with fail
        have hwf := HWF.out
        rw [hwf]
        clear hwf
        refine HSK.out.mono ?_
        rintro e w2 ⟨rfl, hr2, hg2⟩
        have f1 : w2.cell? ⟨wr.heap.size, 1, none⟩ = some (fE (E 2)) := cell_of_blk ((hg2.block _ (by omega) (fun e => hRf (Option.some.inj e))).trans HRF.out) 1
        have ho2 := (hg2.block w.heap.size (Array.getElem?_eq_some_iff.1 HTL2.out.out).1 hne).trans HTL2.out.out
        cases b with
        | false =>
          have HN : Hid (TL (RT D) R FB E l (k + 1) w (2 + 1) w2) := Lib.hid (by
            rw [cut_no HB.out] at hr2
            exact ⟨past_miss HTL.out.past rfl rfl HB.out, hr2, ho2, grownBy_trans HTL2.out.grown hg2⟩)
          clear hr2 hg2 ho2 f1
          go_wp2_with fail
          go_roundw
          case rel => exact ⟨2 + 1, by omega, by go_num, HN.out⟩
          case measure => simp [intOf]
        | true =>
          have HC := Lib.hid (HF2.out w2 (small_cut HHL.out) hr2)
          have HO2 := Lib.hid ho2
          have HG2 := Lib.hid (grownBy_trans HTL2.out.grown hg2)
          clear hr2 hg2 ho2
          go_wp2_with fail
          refine HC.out.mono ?_
          rintro e w3 ⟨hg3, x, k3, l3, v3, rfl, hR3, ⟨tp, tc, rp, rc, p, c, rfl, hO3⟩, hr3⟩
          have ho3 := (hg3.block w.heap.size (Array.getElem?_eq_some_iff.1 HO2.out).1 hne).trans HO2.out
          have r0 := cell_of_blk ho3 0
          have r1 := cell_of_blk ho3 1
          have r2 := cell_of_blk ho3 2
          have r3 := cell_of_blk ho3 3
          have r4 := cell_of_blk ho3 4
          have r5 := cell_of_blk ho3 5
          have r6 := cell_of_blk ho3 6
          have r7 := cell_of_blk ho3 7
          have r8 := cell_of_blk ho3 8
          have rz := unfrozen_of_blk ho3
          simp only [List.getElem?_toArray, List.getElem?_cons_zero, List.getElem?_cons_succ] at r0 r1 r2 r3 r4 r5 r6 r7 r8
          have HX := Lib.hid (And.intro (grownBy_trans HG2.out hg3) (And.intro hR3 (And.intro hO3 hr3)))
          clear hg3 hR3 hO3 hr3 ho3 f1
          go_wp2_with fail
          refine bodyPost_ret (v := tmV x tp tc rp rc p c) ?_ rfl ?_
          · rw [results_cell1 rfl]
            go_simp
            all_goals (repeat' apply And.intro) <;> rfl
          · obtain ⟨x1, x2, x3, x4⟩ := HX.out
            exact form_out HU.out x1 (HREL.out _ _ _ (past_hit HTL.out.past rfl HB.out x2)) (x3.mono (fun z hz => ⟨by have := HG2.out.size; have := (Array.getElem?_eq_some_iff.1 HO2.out).1; omega, hz.2⟩)) x4
      · have t0 : wr.cell? ⟨FB, 6, none⟩ = some (.string ⟨#[126]⟩) := cell_of_blk htab 6
        have t1 : wr.cell? ⟨FB, 7, none⟩ = some (fE (E 3)) := cell_of_blk htab 7
        obtain ⟨wf, hwf, hsf, hbf, rf⟩ := box_new wr #[.string ⟨#[126]⟩, fE (E 3)] 89
        have hTL2 := HTL.out.below hbf
        obtain ⟨b, hb⟩ : ∃ b, List.isPrefixOf [126] l = b := ⟨_, rfl⟩
        have hsk := skip_any [126] hTL2.rd
        rw [hb] at hsk
        have HSK := Lib.hid hsk
        have HB := Lib.hid hb
        have HTL2 := Lib.hid hTL2
        have HRF := Lib.hid rf
        have hRf : wr.heap.size ≠ R := fun e => by have := HTL.out.rd.lt; omega
        have HWF := Lib.hid hwf
        clear htab hTL2 hsk hb hbf rf hwf
        go_wp2_with fail
        have hwf := HWF.out
        rw [hwf]
        clear hwf
        refine HSK.out.mono ?_
        rintro e w2 ⟨rfl, hr2, hg2⟩
        have f1 : w2.cell? ⟨wr.heap.size, 1, none⟩ = some (fE (E 3)) := cell_of_blk ((hg2.block _ (by omega) (fun e => hRf (Option.some.inj e))).trans HRF.out) 1
        have ho2 := (hg2.block w.heap.size (Array.getElem?_eq_some_iff.1 HTL2.out.out).1 hne).trans HTL2.out.out
        cases b with
        | false =>
          have HN : Hid (TL (RT D) R FB E l (k + 1) w (3 + 1) w2) := Lib.hid (by
            rw [cut_no HB.out] at hr2
            exact ⟨past_miss HTL.out.past rfl rfl HB.out, hr2, ho2, grownBy_trans HTL2.out.grown hg2⟩)
          clear hr2 hg2 ho2 f1
          go_wp2_with fail
          go_roundw
          case rel => exact ⟨3 + 1, by omega, by go_num, HN.out⟩
          case measure => simp [intOf]
        | true =>
          have HC := Lib.hid (HF3.out w2 (small_cut HHL.out) hr2)
          have HO2 := Lib.hid ho2
          have HG2 := Lib.hid (grownBy_trans HTL2.out.grown hg2)
          clear hr2 hg2 ho2
          go_wp2_with fail
          refine HC.out.mono ?_
          rintro e w3 ⟨hg3, x, k3, l3, v3, rfl, hR3, ⟨tp, tc, rp, rc, p, c, rfl, hO3⟩, hr3⟩
          have ho3 := (hg3.block w.heap.size (Array.getElem?_eq_some_iff.1 HO2.out).1 hne).trans HO2.out
          have r0 := cell_of_blk ho3 0
          have r1 := cell_of_blk ho3 1
          have r2 := cell_of_blk ho3 2
          have r3 := cell_of_blk ho3 3
          have r4 := cell_of_blk ho3 4
          have r5 := cell_of_blk ho3 5
          have r6 := cell_of_blk ho3 6
          have r7 := cell_of_blk ho3 7
          have r8 := cell_of_blk ho3 8
          have rz := unfrozen_of_blk ho3
          simp only [List.getElem?_toArray, List.getElem?_cons_zero, List.getElem?_cons_succ] at r0 r1 r2 r3 r4 r5 r6 r7 r8
          have HX := Lib.hid (And.intro (grownBy_trans HG2.out hg3) (And.intro hR3 (And.intro hO3 hr3)))
          clear hg3 hR3 hO3 hr3 ho3 f1
          go_wp2_with fail
          refine bodyPost_ret (v := tmV x tp tc rp rc p c) ?_ rfl ?_
          · rw [results_cell1 rfl]
            go_simp
            all_goals (repeat' apply And.intro) <;> rfl
          · obtain ⟨x1, x2, x3, x4⟩ := HX.out
            exact form_out HU.out x1 (HREL.out _ _ _ (past_hit HTL.out.past rfl HB.out x2)) (x3.mono (fun z hz => ⟨by have := HG2.out.size; have := (Array.getElem?_eq_some_iff.1 HO2.out).1; omega, hz.2⟩)) x4
      · have t0 : wr.cell? ⟨FB, 8, none⟩ = some (.string ⟨#[40, 33]⟩) := cell_of_blk htab 8
        have t1 : wr.cell? ⟨FB, 9, none⟩ = some (fE (E 4)) := cell_of_blk htab 9
        obtain ⟨wf, hwf, hsf, hbf, rf⟩ := box_new wr #[.string ⟨#[40, 33]⟩, fE (E 4)] 89
        have hTL2 := HTL.out.below hbf
        obtain ⟨b, hb⟩ : ∃ b, List.isPrefixOf [40, 33] l = b := ⟨_, rfl⟩
        have hsk := skip_any [40, 33] hTL2.rd
        rw [hb] at hsk
        have HSK := Lib.hid hsk
        have HB := Lib.hid hb
        have HTL2 := Lib.hid hTL2
        have HRF := Lib.hid rf
        have hRf : wr.heap.size ≠ R := fun e => by have := HTL.out.rd.lt; omega
        have HWF := Lib.hid hwf
        clear htab hTL2 hsk hb hbf rf hwf
        go_wp2_with fail
        have hwf := HWF.out
        rw [hwf]
        clear hwf
        refine HSK.out.mono ?_
        rintro e w2 ⟨rfl, hr2, hg2⟩
        have f1 : w2.cell? ⟨wr.heap.size, 1, none⟩ = some (fE (E 4)) := cell_of_blk ((hg2.block _ (by omega) (fun e => hRf (Option.some.inj e))).trans HRF.out) 1
        have ho2 := (hg2.block w.heap.size (Array.getElem?_eq_some_iff.1 HTL2.out.out).1 hne).trans HTL2.out.out
        cases b with
        | false =>
          have HN : Hid (TL (RT D) R FB E l (k + 1) w (4 + 1) w2) := Lib.hid (by
            rw [cut_no HB.out] at hr2
            exact ⟨past_miss HTL.out.past rfl rfl HB.out, hr2, ho2, grownBy_trans HTL2.out.grown hg2⟩)
          clear hr2 hg2 ho2 f1
          go_wp2_with fail
          go_roundw
          case rel => exact ⟨4 + 1, by omega, by go_num, HN.out⟩
          case measure => simp [intOf]
        | true =>
          have HC := Lib.hid (HF4.out w2 (small_cut HHL.out) hr2)
          have HO2 := Lib.hid ho2
          have HG2 := Lib.hid (grownBy_trans HTL2.out.grown hg2)
          clear hr2 hg2 ho2
          go_wp2_with fail
          refine HC.out.mono ?_
          rintro e w3 ⟨hg3, x, k3, l3, v3, rfl, hR3, ⟨tp, tc, rp, rc, p, c, rfl, hO3⟩, hr3⟩
          have ho3 := (hg3.block w.heap.size (Array.getElem?_eq_some_iff.1 HO2.out).1 hne).trans HO2.out
          have r0 := cell_of_blk ho3 0
          have r1 := cell_of_blk ho3 1
          have r2 := cell_of_blk ho3 2
          have r3 := cell_of_blk ho3 3
          have r4 := cell_of_blk ho3 4
          have r5 := cell_of_blk ho3 5
          have r6 := cell_of_blk ho3 6
          have r7 := cell_of_blk ho3 7
          have r8 := cell_of_blk ho3 8
          have rz := unfrozen_of_blk ho3
          simp only [List.getElem?_toArray, List.getElem?_cons_zero, List.getElem?_cons_succ] at r0 r1 r2 r3 r4 r5 r6 r7 r8
          have HX := Lib.hid (And.intro (grownBy_trans HG2.out hg3) (And.intro hR3 (And.intro hO3 hr3)))
          clear hg3 hR3 hO3 hr3 ho3 f1
          go_wp2_with fail
          refine bodyPost_ret (v := tmV x tp tc rp rc p c) ?_ rfl ?_
          · rw [results_cell1 rfl]
            go_simp
            all_goals (repeat' apply And.intro) <;> rfl
          · obtain ⟨x1, x2, x3, x4⟩ := HX.out
            exact form_out HU.out x1 (HREL.out _ _ _ (past_hit HTL.out.past rfl HB.out x2)) (x3.mono (fun z hz => ⟨by have := HG2.out.size; have := (Array.getElem?_eq_some_iff.1 HO2.out).1; omega, hz.2⟩)) x4
      · have t0 : wr.cell? ⟨FB, 10, none⟩ = some (.string ⟨#[40, 105, 102, 32]⟩) := cell_of_blk htab 10
        have t1 : wr.cell? ⟨FB, 11, none⟩ = some (fE (E 5)) := cell_of_blk htab 11
        obtain ⟨wf, hwf, hsf, hbf, rf⟩ := box_new wr #[.string ⟨#[40, 105, 102, 32]⟩, fE (E 5)] 89
        have hTL2 := HTL.out.below hbf
        obtain ⟨b, hb⟩ : ∃ b, List.isPrefixOf [40, 105, 102, 32] l = b := ⟨_, rfl⟩
        have hsk := skip_any [40, 105, 102, 32] hTL2.rd
        rw [hb] at hsk
        have HSK := Lib.hid hsk
        have HB := Lib.hid hb
        have HTL2 := Lib.hid hTL2
        have HRF := Lib.hid rf
        have hRf : wr.heap.size ≠ R := fun e => by have := HTL.out.rd.lt; omega
        have HWF := Lib.hid hwf
        clear htab hTL2 hsk hb hbf rf hwf
        go_wp2_with fail
        have hwf := HWF.out
        rw [hwf]
        clear hwf
        refine HSK.out.mono ?_
        rintro e w2 ⟨rfl, hr2, hg2⟩
        have f1 : w2.cell? ⟨wr.heap.size, 1, none⟩ = some (fE (E 5)) := cell_of_blk ((hg2.block _ (by omega) (fun e => hRf (Option.some.inj e))).trans HRF.out) 1
        have ho2 := (hg2.block w.heap.size (Array.getElem?_eq_some_iff.1 HTL2.out.out).1 hne).trans HTL2.out.out
        cases b with
        | false =>
          have HN : Hid (TL (RT D) R FB E l (k + 1) w (5 + 1) w2) := Lib.hid (by
            rw [cut_no HB.out] at hr2
            exact ⟨past_miss HTL.out.past rfl rfl HB.out, hr2, ho2, grownBy_trans HTL2.out.grown hg2⟩)
          clear hr2 hg2 ho2 f1
          go_wp2_with fail
          go_roundw
          case rel => exact ⟨5 + 1, by omega, by go_num, HN.out⟩
          case measure => simp [intOf]
        | true =>
          have HC := Lib.hid (HF5.out w2 (small_cut HHL.out) hr2)
          have HO2 := Lib.hid ho2
          have HG2 := Lib.hid (grownBy_trans HTL2.out.grown hg2)
          clear hr2 hg2 ho2
          go_wp2_with fail
          refine HC.out.mono ?_
          rintro e w3 ⟨hg3, x, k3, l3, v3, rfl, hR3, ⟨tp, tc, rp, rc, p, c, rfl, hO3⟩, hr3⟩
          have ho3 := (hg3.block w.heap.size (Array.getElem?_eq_some_iff.1 HO2.out).1 hne).trans HO2.out
          have r0 := cell_of_blk ho3 0
          have r1 := cell_of_blk ho3 1
          have r2 := cell_of_blk ho3 2
          have r3 := cell_of_blk ho3 3
          have r4 := cell_of_blk ho3 4
          have r5 := cell_of_blk ho3 5
          have r6 := cell_of_blk ho3 6
          have r7 := cell_of_blk ho3 7
          have r8 := cell_of_blk ho3 8
          have rz := unfrozen_of_blk ho3
          simp only [List.getElem?_toArray, List.getElem?_cons_zero, List.getElem?_cons_succ] at r0 r1 r2 r3 r4 r5 r6 r7 r8
          have HX := Lib.hid (And.intro (grownBy_trans HG2.out hg3) (And.intro hR3 (And.intro hO3 hr3)))
          clear hg3 hR3 hO3 hr3 ho3 f1
          go_wp2_with fail
          refine bodyPost_ret (v := tmV x tp tc rp rc p c) ?_ rfl ?_
          · rw [results_cell1 rfl]
            go_simp
            all_goals (repeat' apply And.intro) <;> rfl
          · obtain ⟨x1, x2, x3, x4⟩ := HX.out
            exact form_out HU.out x1 (HREL.out _ _ _ (past_hit HTL.out.past rfl HB.out x2)) (x3.mono (fun z hz => ⟨by have := HG2.out.size; have := (Array.getElem?_eq_some_iff.1 HO2.out).1; omega, hz.2⟩)) x4
      · have t0 : wr.cell? ⟨FB, 12, none⟩ = some (.string ⟨#[40, 114, 117, 110, 32]⟩) := cell_of_blk htab 12
        have t1 : wr.cell? ⟨FB, 13, none⟩ = some (fE (E 6)) := cell_of_blk htab 13
        obtain ⟨wf, hwf, hsf, hbf, rf⟩ := box_new wr #[.string ⟨#[40, 114, 117, 110, 32]⟩, fE (E 6)] 89
        have hTL2 := HTL.out.below hbf
        obtain ⟨b, hb⟩ : ∃ b, List.isPrefixOf [40, 114, 117, 110, 32] l = b := ⟨_, rfl⟩
        have hsk := skip_any [40, 114, 117, 110, 32] hTL2.rd
        rw [hb] at hsk
        have HSK := Lib.hid hsk
        have HB := Lib.hid hb
        have HTL2 := Lib.hid hTL2
        have HRF := Lib.hid rf
        have hRf : wr.heap.size ≠ R := fun e => by have := HTL.out.rd.lt; omega
        have HWF := Lib.hid hwf
        clear htab hTL2 hsk hb hbf rf hwf
        go_wp2_with fail
        have hwf := HWF.out
        rw [hwf]
        clear hwf
        refine HSK.out.mono ?_
        rintro e w2 ⟨rfl, hr2, hg2⟩
        have f1 : w2.cell? ⟨wr.heap.size, 1, none⟩ = some (fE (E 6)) := cell_of_blk ((hg2.block _ (by omega) (fun e => hRf (Option.some.inj e))).trans HRF.out) 1
        have ho2 := (hg2.block w.heap.size (Array.getElem?_eq_some_iff.1 HTL2.out.out).1 hne).trans HTL2.out.out
        cases b with
        | false =>
          have HN : Hid (TL (RT D) R FB E l (k + 1) w (6 + 1) w2) := Lib.hid (by
            rw [cut_no HB.out] at hr2
            exact ⟨past_miss HTL.out.past rfl rfl HB.out, hr2, ho2, grownBy_trans HTL2.out.grown hg2⟩)
          clear hr2 hg2 ho2 f1
          go_wp2_with fail
          go_roundw
          case rel => exact ⟨6 + 1, by omega, by go_num, HN.out⟩
          case measure => simp [intOf]
        | true =>
          have HC := Lib.hid (HF6.out w2 (small_cut HHL.out) hr2)
          have HO2 := Lib.hid ho2
          have HG2 := Lib.hid (grownBy_trans HTL2.out.grown hg2)
          clear hr2 hg2 ho2
          go_wp2_with fail
          refine HC.out.mono ?_
          rintro e w3 ⟨hg3, x, k3, l3, v3, rfl, hR3, ⟨tp, tc, rp, rc, p, c, rfl, hO3⟩, hr3⟩
          have ho3 := (hg3.block w.heap.size (Array.getElem?_eq_some_iff.1 HO2.out).1 hne).trans HO2.out
          have r0 := cell_of_blk ho3 0
          have r1 := cell_of_blk ho3 1
          have r2 := cell_of_blk ho3 2
          have r3 := cell_of_blk ho3 3
          have r4 := cell_of_blk ho3 4
          have r5 := cell_of_blk ho3 5
          have r6 := cell_of_blk ho3 6
          have r7 := cell_of_blk ho3 7
          have r8 := cell_of_blk ho3 8
          have rz := unfrozen_of_blk ho3
          simp only [List.getElem?_toArray, List.getElem?_cons_zero, List.getElem?_cons_succ] at r0 r1 r2 r3 r4 r5 r6 r7 r8
          have HX := Lib.hid (And.intro (grownBy_trans HG2.out hg3) (And.intro hR3 (And.intro hO3 hr3)))
          clear hg3 hR3 hO3 hr3 ho3 f1
          go_wp2_with fail
          refine bodyPost_ret (v := tmV x tp tc rp rc p c) ?_ rfl ?_
          · rw [results_cell1 rfl]
            go_simp
            all_goals (repeat' apply And.intro) <;> rfl
          · obtain ⟨x1, x2, x3, x4⟩ := HX.out
            exact form_out HU.out x1 (HREL.out _ _ _ (past_hit HTL.out.past rfl HB.out x2)) (x3.mono (fun z hz => ⟨by have := HG2.out.size; have := (Array.getElem?_eq_some_iff.1 HO2.out).1; omega, hz.2⟩)) x4
      · have t0 : wr.cell? ⟨FB, 14, none⟩ = some (.string ⟨#[40, 108, 105, 102, 116, 32]⟩) := cell_of_blk htab 14
        have t1 : wr.cell? ⟨FB, 15, none⟩ = some (fE (E 7)) := cell_of_blk htab 15
        obtain ⟨wf, hwf, hsf, hbf, rf⟩ := box_new wr #[.string ⟨#[40, 108, 105, 102, 116, 32]⟩, fE (E 7)] 89
        have hTL2 := HTL.out.below hbf
        obtain ⟨b, hb⟩ : ∃ b, List.isPrefixOf [40, 108, 105, 102, 116, 32] l = b := ⟨_, rfl⟩
        have hsk := skip_any [40, 108, 105, 102, 116, 32] hTL2.rd
        rw [hb] at hsk
        have HSK := Lib.hid hsk
        have HB := Lib.hid hb
        have HTL2 := Lib.hid hTL2
        have HRF := Lib.hid rf
        have hRf : wr.heap.size ≠ R := fun e => by have := HTL.out.rd.lt; omega
        have HWF := Lib.hid hwf
        clear htab hTL2 hsk hb hbf rf hwf
        go_wp2_with fail
        have hwf := HWF.out
        rw [hwf]
        clear hwf
        refine HSK.out.mono ?_
        rintro e w2 ⟨rfl, hr2, hg2⟩
        have f1 : w2.cell? ⟨wr.heap.size, 1, none⟩ = some (fE (E 7)) := cell_of_blk ((hg2.block _ (by omega) (fun e => hRf (Option.some.inj e))).trans HRF.out) 1
        have ho2 := (hg2.block w.heap.size (Array.getElem?_eq_some_iff.1 HTL2.out.out).1 hne).trans HTL2.out.out
        cases b with
        | false =>
          have HN : Hid (TL (RT D) R FB E l (k + 1) w (7 + 1) w2) := Lib.hid (by
            rw [cut_no HB.out] at hr2
            exact ⟨past_miss HTL.out.past rfl rfl HB.out, hr2, ho2, grownBy_trans HTL2.out.grown hg2⟩)
          clear hr2 hg2 ho2 f1
          go_wp2_with fail
          go_roundw
          case rel => exact ⟨7 + 1, by omega, by go_num, HN.out⟩
          case measure => simp [intOf]
        | true =>
          have HC := Lib.hid (HF7.out w2 (small_cut HHL.out) hr2)
          have HO2 := Lib.hid ho2
          have HG2 := Lib.hid (grownBy_trans HTL2.out.grown hg2)
          clear hr2 hg2 ho2
          go_wp2_with fail
          refine HC.out.mono ?_
          rintro e w3 ⟨hg3, x, k3, l3, v3, rfl, hR3, ⟨tp, tc, rp, rc, p, c, rfl, hO3⟩, hr3⟩
          have ho3 := (hg3.block w.heap.size (Array.getElem?_eq_some_iff.1 HO2.out).1 hne).trans HO2.out
          have r0 := cell_of_blk ho3 0
          have r1 := cell_of_blk ho3 1
          have r2 := cell_of_blk ho3 2
          have r3 := cell_of_blk ho3 3
          have r4 := cell_of_blk ho3 4
          have r5 := cell_of_blk ho3 5
          have r6 := cell_of_blk ho3 6
          have r7 := cell_of_blk ho3 7
          have r8 := cell_of_blk ho3 8
          have rz := unfrozen_of_blk ho3
          simp only [List.getElem?_toArray, List.getElem?_cons_zero, List.getElem?_cons_succ] at r0 r1 r2 r3 r4 r5 r6 r7 r8
          have HX := Lib.hid (And.intro (grownBy_trans HG2.out hg3) (And.intro hR3 (And.intro hO3 hr3)))
          clear hg3 hR3 hO3 hr3 ho3 f1
          go_wp2_with fail
          refine bodyPost_ret (v := tmV x tp tc rp rc p c) ?_ rfl ?_
          · rw [results_cell1 rfl]
            go_simp
            all_goals (repeat' apply And.intro) <;> rfl
          · obtain ⟨x1, x2, x3, x4⟩ := HX.out
            exact form_out HU.out x1 (HREL.out _ _ _ (past_hit HTL.out.past rfl HB.out x2)) (x3.mono (fun z hz => ⟨by have := HG2.out.size; have := (Array.getElem?_eq_some_iff.1 HO2.out).1; omega, hz.2⟩)) x4
      · have t0 : wr.cell? ⟨FB, 16, none⟩ = some (.string ⟨#[40, 108, 101, 116, 32]⟩) := cell_of_blk htab 16
        have t1 : wr.cell? ⟨FB, 17, none⟩ = some (.func (.func 54) #[] #[]) := cell_of_blk htab 17
        obtain ⟨wf, hwf, hsf, hbf, rf⟩ := box_new wr #[.string ⟨#[40, 108, 101, 116, 32]⟩, .func (.func 54) #[] #[]] 89
        have hTL2 := HTL.out.below hbf
        obtain ⟨b, hb⟩ : ∃ b, List.isPrefixOf [40, 108, 101, 116, 32] l = b := ⟨_, rfl⟩
        have hsk := skip_any [40, 108, 101, 116, 32] hTL2.rd
        rw [hb] at hsk
        have HSK := Lib.hid hsk
        have HB := Lib.hid hb
        have HTL2 := Lib.hid hTL2
        have HRF := Lib.hid rf
        have hRf : wr.heap.size ≠ R := fun e => by have := HTL.out.rd.lt; omega
        have HWF := Lib.hid hwf
        clear htab hTL2 hsk hb hbf rf hwf
        go_wp2_with fail
        have hwf := HWF.out
        rw [hwf]
        clear hwf
        refine HSK.out.mono ?_
        rintro e w2 ⟨rfl, hr2, hg2⟩
        have f1 : w2.cell? ⟨wr.heap.size, 1, none⟩ = some (.func (.func 54) #[] #[]) := cell_of_blk ((hg2.block _ (by omega) (fun e => hRf (Option.some.inj e))).trans HRF.out) 1
        have ho2 := (hg2.block w.heap.size (Array.getElem?_eq_some_iff.1 HTL2.out.out).1 hne).trans HTL2.out.out
        cases b with
        | false =>
          have HN : Hid (TL (RT D) R FB E l (k + 1) w (8 + 1) w2) := Lib.hid (by
            rw [cut_no HB.out] at hr2
            exact ⟨past_miss HTL.out.past rfl rfl HB.out, hr2, ho2, grownBy_trans HTL2.out.grown hg2⟩)
          clear hr2 hg2 ho2 f1
          go_wp2_with fail
          go_roundw
          case rel => exact ⟨8 + 1, by omega, by go_num, HN.out⟩
          case measure => simp [intOf]
        | true =>
          have HC := Lib.hid (HF8.out w2 (small_cut HHL.out) hr2)
          have HO2 := Lib.hid ho2
          have HG2 := Lib.hid (grownBy_trans HTL2.out.grown hg2)
          clear hr2 hg2 ho2
          go_wp2_with fail
          refine HC.out.mono ?_
          rintro e w3 ⟨hg3, x, k3, l3, v3, rfl, hR3, ⟨tp, tc, rp, rc, p, c, rfl, hO3⟩, hr3⟩
          have ho3 := (hg3.block w.heap.size (Array.getElem?_eq_some_iff.1 HO2.out).1 hne).trans HO2.out
          have r0 := cell_of_blk ho3 0
          have r1 := cell_of_blk ho3 1
          have r2 := cell_of_blk ho3 2
          have r3 := cell_of_blk ho3 3
          have r4 := cell_of_blk ho3 4
          have r5 := cell_of_blk ho3 5
          have r6 := cell_of_blk ho3 6
          have r7 := cell_of_blk ho3 7
          have r8 := cell_of_blk ho3 8
          have rz := unfrozen_of_blk ho3
          simp only [List.getElem?_toArray, List.getElem?_cons_zero, List.getElem?_cons_succ] at r0 r1 r2 r3 r4 r5 r6 r7 r8
          have HX := Lib.hid (And.intro (grownBy_trans HG2.out hg3) (And.intro hR3 (And.intro hO3 hr3)))
          clear hg3 hR3 hO3 hr3 ho3 f1
          go_wp2_with fail
          refine bodyPost_ret (v := tmV x tp tc rp rc p c) ?_ rfl ?_
          · rw [results_cell1 rfl]
            go_simp
            all_goals (repeat' apply And.intro) <;> rfl
          · obtain ⟨x1, x2, x3, x4⟩ := HX.out
            exact form_out HU.out x1 (HREL.out _ _ _ (past_hit HTL.out.past rfl HB.out x2)) (x3.mono (fun z hz => ⟨by have := HG2.out.size; have := (Array.getElem?_eq_some_iff.1 HO2.out).1; omega, hz.2⟩)) x4
      · have t0 : wr.cell? ⟨FB, 18, none⟩ = some (.string ⟨#[40, 114, 101, 99, 32]⟩) := cell_of_blk htab 18
        have t1 : wr.cell? ⟨FB, 19, none⟩ = some (.func (.func 55) #[] #[]) := cell_of_blk htab 19
        obtain ⟨wf, hwf, hsf, hbf, rf⟩ := box_new wr #[.string ⟨#[40, 114, 101, 99, 32]⟩, .func (.func 55) #[] #[]] 89
        have hTL2 := HTL.out.below hbf
        obtain ⟨b, hb⟩ : ∃ b, List.isPrefixOf [40, 114, 101, 99, 32] l = b := ⟨_, rfl⟩
        have hsk := skip_any [40, 114, 101, 99, 32] hTL2.rd
        rw [hb] at hsk
        have HSK := Lib.hid hsk
        have HB := Lib.hid hb
        have HTL2 := Lib.hid hTL2
        have HRF := Lib.hid rf
        have hRf : wr.heap.size ≠ R := fun e => by have := HTL.out.rd.lt; omega
        have HWF := Lib.hid hwf
        clear htab hTL2 hsk hb hbf rf hwf
        go_wp2_with fail
        have hwf := HWF.out
        rw [hwf]
        clear hwf
        refine HSK.out.mono ?_
        rintro e w2 ⟨rfl, hr2, hg2⟩
        have f1 : w2.cell? ⟨wr.heap.size, 1, none⟩ = some (.func (.func 55) #[] #[]) := cell_of_blk ((hg2.block _ (by omega) (fun e => hRf (Option.some.inj e))).trans HRF.out) 1
        have ho2 := (hg2.block w.heap.size (Array.getElem?_eq_some_iff.1 HTL2.out.out).1 hne).trans HTL2.out.out
        cases b with
        | false =>
          have HN : Hid (TL (RT D) R FB E l (k + 1) w (9 + 1) w2) := Lib.hid (by
            rw [cut_no HB.out] at hr2
            exact ⟨past_miss HTL.out.past rfl rfl HB.out, hr2, ho2, grownBy_trans HTL2.out.grown hg2⟩)
          clear hr2 hg2 ho2 f1
          go_wp2_with fail
          go_roundw
          case rel => exact ⟨9 + 1, by omega, by go_num, HN.out⟩
          case measure => simp [intOf]
        | true =>
          have HC := Lib.hid (HF9.out w2 (small_cut HHL.out) hr2)
          have HO2 := Lib.hid ho2
          have HG2 := Lib.hid (grownBy_trans HTL2.out.grown hg2)
          clear hr2 hg2 ho2
          go_wp2_with fail
          refine HC.out.mono ?_
          rintro e w3 ⟨hg3, x, k3, l3, v3, rfl, hR3, ⟨tp, tc, rp, rc, p, c, rfl, hO3⟩, hr3⟩
          have ho3 := (hg3.block w.heap.size (Array.getElem?_eq_some_iff.1 HO2.out).1 hne).trans HO2.out
          have r0 := cell_of_blk ho3 0
          have r1 := cell_of_blk ho3 1
          have r2 := cell_of_blk ho3 2
          have r3 := cell_of_blk ho3 3
          have r4 := cell_of_blk ho3 4
          have r5 := cell_of_blk ho3 5
          have r6 := cell_of_blk ho3 6
          have r7 := cell_of_blk ho3 7
          have r8 := cell_of_blk ho3 8
          have rz := unfrozen_of_blk ho3
          simp only [List.getElem?_toArray, List.getElem?_cons_zero, List.getElem?_cons_succ] at r0 r1 r2 r3 r4 r5 r6 r7 r8
          have HX := Lib.hid (And.intro (grownBy_trans HG2.out hg3) (And.intro hR3 (And.intro hO3 hr3)))
          clear hg3 hR3 hO3 hr3 ho3 f1
          go_wp2_with fail
          refine bodyPost_ret (v := tmV x tp tc rp rc p c) ?_ rfl ?_
          · rw [results_cell1 rfl]
            go_simp
            all_goals (repeat' apply And.intro) <;> rfl
          · obtain ⟨x1, x2, x3, x4⟩ := HX.out
            exact form_out HU.out x1 (HREL.out _ _ _ (past_hit HTL.out.past rfl HB.out x2)) (x3.mono (fun z hz => ⟨by have := HG2.out.size; have := (Array.getElem?_eq_some_iff.1 HO2.out).1; omega, hz.2⟩)) x4
      · have t0 : wr.cell? ⟨FB, 20, none⟩ = some (.string ⟨#[40, 92]⟩) := cell_of_blk htab 20
        have t1 : wr.cell? ⟨FB, 21, none⟩ = some (.func (.func 56) #[] #[]) := cell_of_blk htab 21
        obtain ⟨wf, hwf, hsf, hbf, rf⟩ := box_new wr #[.string ⟨#[40, 92]⟩, .func (.func 56) #[] #[]] 89
        have hTL2 := HTL.out.below hbf
        obtain ⟨b, hb⟩ : ∃ b, List.isPrefixOf [40, 92] l = b := ⟨_, rfl⟩
        have hsk := skip_any [40, 92] hTL2.rd
        rw [hb] at hsk
        have HSK := Lib.hid hsk
        have HB := Lib.hid hb
        have HTL2 := Lib.hid hTL2
        have HRF := Lib.hid rf
        have hRf : wr.heap.size ≠ R := fun e => by have := HTL.out.rd.lt; omega
        have HWF := Lib.hid hwf
        clear htab hTL2 hsk hb hbf rf hwf
        go_wp2_with fail
        have hwf := HWF.out
        rw [hwf]
        clear hwf
        refine HSK.out.mono ?_
        rintro e w2 ⟨rfl, hr2, hg2⟩
        have f1 : w2.cell? ⟨wr.heap.size, 1, none⟩ = some (.func (.func 56) #[] #[]) := cell_of_blk ((hg2.block _ (by omega) (fun e => hRf (Option.some.inj e))).trans HRF.out) 1
        have ho2 := (hg2.block w.heap.size (Array.getElem?_eq_some_iff.1 HTL2.out.out).1 hne).trans HTL2.out.out
        cases b with
        | false =>
          have HN : Hid (TL (RT D) R FB E l (k + 1) w (10 + 1) w2) := Lib.hid (by
            rw [cut_no HB.out] at hr2
            exact ⟨past_miss HTL.out.past rfl rfl HB.out, hr2, ho2, grownBy_trans HTL2.out.grown hg2⟩)
          clear hr2 hg2 ho2 f1
          go_wp2_with fail
          go_roundw
          case rel => exact ⟨10 + 1, by omega, by go_num, HN.out⟩
          case measure => simp [intOf]
        | true =>
          have HC := Lib.hid (HF10.out w2 (small_cut HHL.out) hr2)
          have HO2 := Lib.hid ho2
          have HG2 := Lib.hid (grownBy_trans HTL2.out.grown hg2)
          clear hr2 hg2 ho2
          go_wp2_with fail
          refine HC.out.mono ?_
          rintro e w3 ⟨hg3, x, k3, l3, v3, rfl, hR3, ⟨tp, tc, rp, rc, p, c, rfl, hO3⟩, hr3⟩
          have ho3 := (hg3.block w.heap.size (Array.getElem?_eq_some_iff.1 HO2.out).1 hne).trans HO2.out
          have r0 := cell_of_blk ho3 0
          have r1 := cell_of_blk ho3 1
          have r2 := cell_of_blk ho3 2
          have r3 := cell_of_blk ho3 3
          have r4 := cell_of_blk ho3 4
          have r5 := cell_of_blk ho3 5
          have r6 := cell_of_blk ho3 6
          have r7 := cell_of_blk ho3 7
          have r8 := cell_of_blk ho3 8
          have rz := unfrozen_of_blk ho3
          simp only [List.getElem?_toArray, List.getElem?_cons_zero, List.getElem?_cons_succ] at r0 r1 r2 r3 r4 r5 r6 r7 r8
          have HX := Lib.hid (And.intro (grownBy_trans HG2.out hg3) (And.intro hR3 (And.intro hO3 hr3)))
          clear hg3 hR3 hO3 hr3 ho3 f1
          go_wp2_with fail
          refine bodyPost_ret (v := tmV x tp tc rp rc p c) ?_ rfl ?_
          · rw [results_cell1 rfl]
            go_simp
            all_goals (repeat' apply And.intro) <;> rfl
          · obtain ⟨x1, x2, x3, x4⟩ := HX.out
            exact form_out HU.out x1 (HREL.out _ _ _ (past_hit HTL.out.past rfl HB.out x2)) (x3.mono (fun z hz => ⟨by have := HG2.out.size; have := (Array.getElem?_eq_some_iff.1 HO2.out).1; omega, hz.2⟩)) x4
      · have t0 : wr.cell? ⟨FB, 22, none⟩ = some (.string ⟨#[40]⟩) := cell_of_blk htab 22
        have t1 : wr.cell? ⟨FB, 23, none⟩ = some (.func (.func 57) #[] #[]) := cell_of_blk htab 23
        obtain ⟨wf, hwf, hsf, hbf, rf⟩ := box_new wr #[.string ⟨#[40]⟩, .func (.func 57) #[] #[]] 89
        have hTL2 := HTL.out.below hbf
        obtain ⟨b, hb⟩ : ∃ b, List.isPrefixOf [40] l = b := ⟨_, rfl⟩
        have hsk := skip_any [40] hTL2.rd
        rw [hb] at hsk
        have HSK := Lib.hid hsk
        have HB := Lib.hid hb
        have HTL2 := Lib.hid hTL2
        have HRF := Lib.hid rf
        have hRf : wr.heap.size ≠ R := fun e => by have := HTL.out.rd.lt; omega
        have HWF := Lib.hid hwf
        clear htab hTL2 hsk hb hbf rf hwf
        go_wp2_with fail
        have hwf := HWF.out
        rw [hwf]
        clear hwf
        refine HSK.out.mono ?_
        rintro e w2 ⟨rfl, hr2, hg2⟩
        have f1 : w2.cell? ⟨wr.heap.size, 1, none⟩ = some (.func (.func 57) #[] #[]) := cell_of_blk ((hg2.block _ (by omega) (fun e => hRf (Option.some.inj e))).trans HRF.out) 1
        have ho2 := (hg2.block w.heap.size (Array.getElem?_eq_some_iff.1 HTL2.out.out).1 hne).trans HTL2.out.out
        cases b with
        | false =>
          have HN : Hid (TL (RT D) R FB E l (k + 1) w (11 + 1) w2) := Lib.hid (by
            rw [cut_no HB.out] at hr2
            exact ⟨past_miss HTL.out.past rfl rfl HB.out, hr2, ho2, grownBy_trans HTL2.out.grown hg2⟩)
          clear hr2 hg2 ho2 f1
          go_wp2_with fail
          go_roundw
          case rel => exact ⟨11 + 1, by omega, by go_num, HN.out⟩
          case measure => simp [intOf]
        | true =>
          have HC := Lib.hid (HF11.out w2 (small_cut HHL.out) hr2)
          have HO2 := Lib.hid ho2
          have HG2 := Lib.hid (grownBy_trans HTL2.out.grown hg2)
          clear hr2 hg2 ho2
          go_wp2_with fail
          refine HC.out.mono ?_
          rintro e w3 ⟨hg3, x, k3, l3, v3, rfl, hR3, ⟨tp, tc, rp, rc, p, c, rfl, hO3⟩, hr3⟩
          have ho3 := (hg3.block w.heap.size (Array.getElem?_eq_some_iff.1 HO2.out).1 hne).trans HO2.out
          have r0 := cell_of_blk ho3 0
          have r1 := cell_of_blk ho3 1
          have r2 := cell_of_blk ho3 2
          have r3 := cell_of_blk ho3 3
          have r4 := cell_of_blk ho3 4
          have r5 := cell_of_blk ho3 5
          have r6 := cell_of_blk ho3 6
          have r7 := cell_of_blk ho3 7
          have r8 := cell_of_blk ho3 8
          have rz := unfrozen_of_blk ho3
          simp only [List.getElem?_toArray, List.getElem?_cons_zero, List.getElem?_cons_succ] at r0 r1 r2 r3 r4 r5 r6 r7 r8
          have HX := Lib.hid (And.intro (grownBy_trans HG2.out hg3) (And.intro hR3 (And.intro hO3 hr3)))
          clear hg3 hR3 hO3 hr3 ho3 f1
          go_wp2_with fail
          refine bodyPost_ret (v := tmV x tp tc rp rc p c) ?_ rfl ?_
          · rw [results_cell1 rfl]
            go_simp
            all_goals (repeat' apply And.intro) <;> rfl
          · obtain ⟨x1, x2, x3, x4⟩ := HX.out
            exact form_out HU.out x1 (HREL.out _ _ _ (past_hit HTL.out.past rfl HB.out x2)) (x3.mono (fun z hz => ⟨by have := HG2.out.size; have := (Array.getElem?_eq_some_iff.1 HO2.out).1; omega, hz.2⟩)) x4
    · obtain rfl : i = 12 := by omega
      have HW0 := Lib.hid (word_any HHL.out HTL.out.rd)
      clear htab e0 e1 e2 ez c0 c1 c2 cz
      go_wp2_with fail
      refine HW0.out.mono ?_
      rintro e w2 ⟨rfl, hr2, hg2⟩
      have HR2 := Lib.hid hr2
      have HG2 := Lib.hid hg2
      have HN := Lib.hid (implNumber_any (bx (wd l)) (by have := small_wd HHL.out; omega) w2 hr2.envAt)
      clear hr2 hg2
      go_wp2_with fail
      refine HN.out.mono ?_
      rintro e w3 ⟨rfl, hb3⟩
      have hR3 := HR2.out.below hb3
      have hg3 := grownBy_trans HG2.out (gb_below hb3 (some R))
      have ho3 := (hg3.block w.heap.size (Array.getElem?_eq_some_iff.1 HTL.out.out).1 hne).trans HTL.out.out
      have r0 := cell_of_blk ho3 0
      have r1 := cell_of_blk ho3 1
      have r2 := cell_of_blk ho3 2
      have r3 := cell_of_blk ho3 3
      have r4 := cell_of_blk ho3 4
      have r5 := cell_of_blk ho3 5
      have r6 := cell_of_blk ho3 6
      have r7 := cell_of_blk ho3 7
      have r8 := cell_of_blk ho3 8
      have rz := unfrozen_of_blk ho3
      simp only [List.getElem?_toArray, List.getElem?_cons_zero, List.getElem?_cons_succ] at r0 r1 r2 r3 r4 r5 r6 r7 r8
      have HR3 := Lib.hid hR3
      have HG3 := Lib.hid (grownBy_trans HTL.out.grown hg3)
      clear hb3 hR3 hg3 ho3
      have hnum : numOut 0 999999 (bx (wd l)).data.toList = if okNum 0 999999 (wd l) then .tuple #[.int .i64 (rd (wd l)), .bool true] else .tuple #[.int .i64 0, .bool false] := rfl
      by_cases ho : okNum 0 999999 (wd l) = true
      · rw [if_pos ho] at hnum
        have HWD := Lib.hid (show wordOf (wd l) = .mk 2 E0 E0 (rd (wd l)) Z0 Z0 [] by unfold wordOf; rw [if_pos ho])
        clear ho
        rw [hnum]
        go_wp2_with fail
        refine bodyPost_ret (v := tmV (.mk 2 E0 E0 (rd (wd l)) Z0 Z0 []) none 0 none 0 none 0) ?_ rfl ?_
        · rw [results_cell1 rfl]
          go_simp
          all_goals (repeat' apply And.intro) <;> rfl
        · exact form_out (t := .mk 2 E0 E0 (rd (wd l)) Z0 Z0 []) HU.out HG3.out (HREL.out _ _ _ (HTL.out.past _ _ _ ⟨rfl, rfl, HWD.out.symm⟩)) (word_os _ _ _ _ _) HR3.out
      · rw [if_neg ho] at hnum
        have HWD := Lib.hid (show wordOf (wd l) = .mk 1 (bx (wd l)) E0 0 Z0 Z0 [] by unfold wordOf; rw [if_neg ho])
        clear ho
        rw [hnum]
        go_wp2_with fail
        refine bodyPost_ret (v := tmV (.mk 1 (bx (wd l)) E0 0 Z0 Z0 []) none 0 none 0 none 0) ?_ rfl ?_
        · rw [results_cell1 rfl]
          go_simp
          all_goals (repeat' apply And.intro) <;> rfl
        · exact form_out (t := .mk 1 (bx (wd l)) E0 0 Z0 Z0 []) HU.out HG3.out (HREL.out _ _ _ (HTL.out.past _ _ _ ⟨rfl, rfl, HWD.out.symm⟩)) (word_os _ _ _ _ _) HR3.out
theorem term_any {R FB : Nat} {E : Nat → Nat} : ∀ (D k0 : Nat), 81 ≤ D + k0 → TermOk (RT D) R FB E k0
  | 0, k0, hD => fun k l W hk _hP hl hr => term_full _ l k W (by omega) (by unfold Pot at _hP; omega) hr ⟨rfl, rfl, rfl⟩
  | D + 1, k0, hD => fun k l W hk _hP hl hr => by
    by_cases h : 80 ≤ k
    · exact term_full _ l k W h (by unfold Pot at _hP; omega) hr (by unfold RT; rw [if_pos h]; exact ⟨rfl, rfl, rfl⟩)
    · exact term_step D l k W h _hP hl (term_any D (k + 1) (by omega)) hr
end Go.Proofs.YtjobmgbchpoheaaGreatDoor
