/-
  Several texts of the proof in one (each says below what it holds): RdT.
-/
import Derived.Test.YtjobmgbchpoheaaGreatDoorPB26
namespace Go.Proofs.YtjobmgbchpoheaaGreatDoor
open Go Go.RowKit
def RestRet (f' : Nat → Option (Tm × Nat)) (R : Nat) (s : ByteArray) (o : Option Nat) (wb : World) (e : Ending) (w' : World) : Prop :=
  ∃ v t o', e = .returned v ∧ TM w' (fun z => wb.heap.size ≤ z) t v ∧ termO f' o t o' ∧ RdO w' R s o' ∧ wb.grownBy w' (some R)
theorem rest_fin {f' : Nat → Option (Tm × Nat)} {wb W : World} {R rb : Nat} {s : ByteArray} {o o' : Option Nat} {t : Tm} {tp rp p : Option Addr} {tc rc c : Nat} (hg : wb.grownBy W (some R)) (hR : R < wb.heap.size) (hrb : wb.heap.size ≤ rb) (hr : RdO W R s o') (hN : TM' W (fun z => wb.heap.size ≤ z ∧ z ≠ rb) t tp tc rp rc p c) (ho : termO f' o t o') :
    RestRet f' R s o wb (.returned (tmV t tp tc rp rc p c)) (((((((((W.setCell ⟨rb, 0, none⟩ (.int .i64 t.kind)).setCell ⟨rb, 1, none⟩ (.string t.name)).setCell ⟨rb, 2, none⟩ (.string t.other)).setCell ⟨rb, 3, none⟩ (.int .i64 t.n)).setCell ⟨rb, 4, none⟩ (.int .i64 t.ty.kind)).setCell ⟨rb, 5, none⟩ (.slice tp t.ty.args.length tc)).setCell ⟨rb, 6, none⟩ (.int .i64 t.res.kind)).setCell ⟨rb, 7, none⟩ (.slice rp t.res.args.length rc)).setCell ⟨rb, 8, none⟩ (.slice p t.args.length c)) := by
  have hst := set9_stays W rb (.int .i64 t.kind) (.string t.name) (.string t.other) (.int .i64 t.n) (.int .i64 t.ty.kind) (.slice tp t.ty.args.length tc) (.int .i64 t.res.kind) (.slice rp t.res.args.length rc) (.slice p t.args.length c) (fun z => wb.heap.size ≤ z ∧ z ≠ rb) (fun h => h.2 rfl)
  have hb := set9_below W rb rb (.int .i64 t.kind) (.string t.name) (.string t.other) (.int .i64 t.n) (.int .i64 t.ty.kind) (.slice tp t.ty.args.length tc) (.int .i64 t.res.kind) (.slice rp t.res.args.length rc) (.slice p t.args.length c) (Nat.le_refl _)
  exact ⟨_, t, o', rfl, ⟨tp, tc, rp, rc, p, c, rfl, (hN.stays hst).mono (fun z hz _ => hz.1)⟩, ho, hr.belowAt (by omega) hb, gb_more hg hrb hb⟩
structure LR (wm : World) (C : Nat → Prop) (R : Nat) (s : ByteArray) (rb bx : Nat) (q : Option Nat) (W : World) (t : Tm) (p : Option Addr) (c : Nat) (xs : List Value) : Prop where
  rd : RdO W R s q
  grown : wm.grownBy W (some R)
  out : W.heap[rb]? = some (.cells zeroC 29 (0, 0))
  box : W.heap[bx]? = some (.cells (tmC t none 0 none 0 p c) 29 (0, 0))
  new : NewTm W wm.heap.size (fun z => C z ∧ z ≠ bx) t none 0 none 0 p c xs
  hR : R < wm.heap.size
  hCR : ∀ z, C z → z ≠ R
  hrb : rb < wm.heap.size
  ne : rb ≠ R
  hb : wm.heap.size ≤ bx
section
variable {wm W W' : World} {C : Nat → Prop} {R bx rb : Nat} {s : ByteArray} {q q' : Option Nat} {t : Tm} {k n : Int} {a o : ByteArray} {ts : List Tm} {p : Option Addr} {c : Nat} {xs : List Value}
theorem LR.step (h : LR wm C R s rb bx q W t p c xs) (hr : RdO W' R s q') (hg : W.grownBy W' (some R)) : LR wm C R s rb bx q' W' t p c xs := by
  have hR := h.hR
  have hb := h.hb
  have l1 := (Array.getElem?_eq_some_iff.1 h.out).1
  have l2 := (Array.getElem?_eq_some_iff.1 h.box).1
  exact ⟨hr, grownBy_trans h.grown hg, (hg.block _ l1 (fun e => h.ne (Option.some.inj e))).trans h.out, (hg.block _ l2 (fun e => by have := Option.some.inj e; omega)).trans h.box,
    h.new.stays ⟨hg.size, fun z hz hl => hg.block z hl (fun e => h.hCR z hz.1 (Option.some.inj e))⟩, h.hR, h.hCR, h.hrb, h.ne, h.hb⟩
theorem LR.set1 (h : LR wm C R s rb bx q W (.mk k a o n Z0 Z0 ts) p c xs) (i : Nat) (v : Value) (k' : Int) (a' : ByteArray) (hbx : (W.setCell ⟨bx, i, none⟩ v).heap[bx]? = some (.cells (tmC (.mk k' a' o n Z0 Z0 ts) none 0 none 0 p c) 29 (0, 0))) :
    LR wm C R s rb bx q (W.setCell ⟨bx, i, none⟩ v) (.mk k' a' o n Z0 Z0 ts) p c xs := by
  have hb := h.hb
  have hR := h.hR
  have hrb := h.hrb
  have hbs : Below bx W (W.setCell ⟨bx, i, none⟩ v) := (Below.refl _ W).setCell (p := ⟨bx, i, none⟩) (Nat.le_refl _) _
  have hn := h.new.stays (setCell_stays W bx i v (fun z => C z ∧ z ≠ bx) (fun e => e.2 rfl))
  exact ⟨h.rd.belowAt (by omega) hbs, gb_more h.grown hb hbs, (hbs.block _ (by omega)).trans h.out, hbx, ⟨hn.ty, hn.res, hn.row⟩, hR, h.hCR, hrb, h.ne, hb⟩
theorem LR.setKind (h : LR wm C R s rb bx q W (.mk k a o n Z0 Z0 ts) p c xs) (y : Int) : LR wm C R s rb bx q (W.setCell ⟨bx, 0, none⟩ (.int .i64 y)) (.mk y a o n Z0 Z0 ts) p c xs :=
  h.set1 0 _ y a (by rw [Go.Joins.block_setCell h.box _]; rfl)
theorem LR.setName (h : LR wm C R s rb bx q W (.mk k a o n Z0 Z0 ts) p c xs) (y : ByteArray) : LR wm C R s rb bx q (W.setCell ⟨bx, 1, none⟩ (.string y)) (.mk k y o n Z0 Z0 ts) p c xs :=
  h.set1 1 _ k y (by rw [Go.Joins.block_setCell h.box _]; rfl)
end
theorem takes_yes {c : UInt8} {s : List UInt8} {o : Option Nat} (h : takes [c] s o = true) : ∃ j, o = some j ∧ s[j]? = some c ∧ takeO [c] s o = some (j + 1) := by
  cases o with
  | none => cases h
  | some j =>
    have h2 : pre [c] s j = true := h
    exact ⟨j, rfl, (pre1 c s j).1 h2, by simp [takeO, h2]⟩
theorem takes_no {q s : List UInt8} {o : Option Nat} (h : takes q s o = false) : takeO q s o = o ∧ ∀ j, o = some j → pre q s j = false := by
  cases o with
  | none => exact ⟨rfl, fun j e => by cases e⟩
  | some j =>
    have h2 : pre q s j = false := h
    exact ⟨by simp [takeO, h2], fun i e => by cases e; exact h2⟩
theorem rowm_one {W : World} {base b : Nat} {C : Nat → Prop} {t : Tm} {tp rp p : Option Addr} {tc rc c : Nat} (hb : W.heap[b]? = some (.cells (tmC t tp tc rp rc p c) 29 (0, 0))) (hg : base ≤ b) (hC : C b) (h : TM' W (fun z => C z ∧ z ≠ b) t tp tc rp rc p c) :
    RowM W base C (.slice (some ⟨b, 0, none⟩) 1 1) [t] (tmL t tp tc rp rc p c) := by
  refine ⟨⟨rfl, Or.inr ⟨b, 1, _, rfl, hg, hb, Nat.le_refl _, by unfold maxLen; omega, rfl, rfl⟩⟩, fun g hg => ?_, ?_⟩
  · simp [Value.ownBlock] at hg
    exact hg ▸ hC
  · have hf : flatTm [t] = t.ds := by simp [flatTm]
    rw [hf]
    exact (h.mono (C' := fun z => C z ∧ (Value.slice (some ⟨b, 0, none⟩) 1 1).ownBlock ≠ some z) (fun z hz _ => ⟨hz.1, fun e => by simp [Value.ownBlock] at e; exact hz.2 e.symm⟩)).ms
theorem rest_app {f : Nat → Option (Tm × Nat)} {s : List UInt8} {x : Tm} {j : Nat} {ts : List Tm} {o' : Option Nat} (hc : s[j]? = some 32) (h : argsP f s [41] (some (j + 1)) ts o') : termO (fun j => pRest s f x j) (some j) (.mk 7 E0 E0 0 Z0 Z0 (x :: ts)) o' := by
  rcases h with ⟨i, h, rfl⟩ | ⟨h, rfl⟩
  · exact Or.inl ⟨i, by simp only [pRest, hc, if_true, h, Option.map_some]; rfl, rfl⟩
  · exact Or.inr ⟨by simp only [pRest, hc, if_true, h, Option.map_none], rfl⟩
theorem rest_op {f : Nat → Option (Tm × Nat)} {s : List UInt8} {x : Tm} {j : Nat} {ts : List Tm} {o' : Option Nat} {c : UInt8} (hn : ¬ s[j]? = some 32) (hc : s[j]? = some c) (ha : opAr [c] = 2) (h : argsP f s [41] (some (j + 1)) ts o') : termO (fun j => pRest s f x j) (some j) (.mk 4 ⟨#[c]⟩ E0 0 Z0 Z0 (x :: ts)) o' := by
  rcases h with ⟨i, h, rfl⟩ | ⟨h, rfl⟩
  · refine Or.inl ⟨i, ?_, rfl⟩
    simp only [pRest]
    rw [if_neg hn, hc]
    simp only [ha, if_true, h, Option.map_some]
    rfl
  · refine Or.inr ⟨?_, rfl⟩
    simp only [pRest]
    rw [if_neg hn, hc]
    simp only [ha, if_true, h, Option.map_none]
theorem rest_bad {f : Nat → Option (Tm × Nat)} {s : List UInt8} {x t : Tm} {o : Option Nat} (h : ∀ j, o = some j → ¬ s[j]? = some 32 ∧ ∀ c, s[j]? = some c → ¬ opAr [c] = 2) : termO (fun j => pRest s f x j) o t none := by
  cases o with
  | none => rfl
  | some j =>
    obtain ⟨h1, h2⟩ := h j rfl
    refine Or.inr ⟨?_, rfl⟩
    simp only [pRest]
    rw [if_neg h1]
    cases hc : s[j]? with
    | none => rfl
    | some c => simp only [if_neg (h2 c hc)]
set_option maxRecDepth 100000 in
set_option maxHeartbeats 8000000 in
theorem l6Rest_any {f : Nat → Option (Tm × Nat)} {R : Nat} {s : ByteArray} {D : Int} (hT : TermIs f R s D) (hs : s.size ≤ 1073741824) (x : Tm) (tp : Option Addr) (tc : Nat) (rp : Option Addr) (rc : Nat) (p : Option Addr) (c : Nat) (o : Option Nat) (wb w : World) (hr : RdO w R s o) (hg : wb.grownBy w (some R)) (hR : R < wb.heap.size)
    (hx : TM' w (fun z => wb.heap.size ≤ z) x tp tc rp rc p c) :
    Calls Tryz.prog 118 #[.pointer (some ⟨R, 0, none⟩), tmV x tp tc rp rc p c, .int .i64 D] w (RestRet (fun j => pRest s.data.toList f x j) R s o wb) := by
  have hsz := hg.size
  obtain ⟨wm, hwm, hsm, hbm, m0, m1⟩ := box_new2 w (tmC x tp tc rp rc p c) zeroC 29 29
  obtain ⟨w0, hw0, hs0, hb0, r2, r3⟩ := box_new2 wm (tmC x tp tc rp rc p c) #[.int .i64 7, .string ⟨#[]⟩, .string ⟨#[]⟩, .int .i64 0, .int .i64 0, .slice none 0 0, .int .i64 0, .slice none 0 0, .slice (some ⟨w.heap.size + 1 + 1, 0, none⟩) 1 1] 29 29
  have hgm : wb.grownBy wm (some R) := gb_more hg hsz hbm
  have hsm' : wm.heap.size = w.heap.size + 1 + 1 := hsm
  rw [hsm'] at r2 r3
  have hww : (((w.alloc (.cells (tmC x tp tc rp rc p c) 29)).alloc (.cells #[.int .i64 0, .string ⟨#[]⟩, .string ⟨#[]⟩, .int .i64 0, .int .i64 0, .slice none 0 0, .int .i64 0, .slice none 0 0, .slice none 0 0] 29)).alloc (.cells (tmC x tp tc rp rc p c) 29)).alloc (.cells #[.int .i64 7, .string ⟨#[]⟩, .string ⟨#[]⟩, .int .i64 0, .int .i64 0, .slice none 0 0, .int .i64 0, .slice none 0 0, .slice (some ⟨w.heap.size + 1 + 1, 0, none⟩) 1 1] 29) = w0 := by
    rw [← hw0, ← hwm]
  have hL0 : LR wm (fun z => wb.heap.size ≤ z ∧ z ≠ w.heap.size + 1) R s (w.heap.size + 1) (w.heap.size + 1 + 1 + 1) o w0 (.mk 7 E0 E0 0 Z0 Z0 [x]) (some ⟨w.heap.size + 1 + 1, 0, none⟩) 1 (tmL x tp tc rp rc p c) := by
    refine ⟨(hr.below hbm).below hb0, gb_below hb0 (some R), (hb0.block _ (by omega)).trans m1, r3, ⟨.nil _ _, .nil _ _, ?_⟩, by omega, fun z hz e => by omega, by omega, by omega, by omega⟩
    exact rowm_one r2 (by omega) ⟨⟨by omega, by omega⟩, by omega⟩ ((((hx.mono (C' := fun z => wb.heap.size ≤ z ∧ z < w.heap.size) (fun z hz hl => ⟨hz, hl⟩)).stays (.of_below hbm)).stays (.of_below hb0)).mono (fun z hz hl => ⟨⟨⟨hz.1, by omega⟩, by omega⟩, by omega⟩))
  have HL0 := Lib.hid hL0
  have HWW := Lib.hid hww
  have HGM := Lib.hid hgm
  have HM1 := Lib.hid m1
  have HSZ := Lib.hid (And.intro hsz hsm')
  have HT := Lib.hid hT
  have HQ := Lib.hid (takeO_any [32] (by decide) hs hL0.rd)
  clear hbm m0 m1 hb0 r2 r3 hs0 hr hg hx hT hL0 hw0 hwm hgm hsz hsm hsm' hww
  go_enter Tryz.func118, Tryz.ntmps118
  go_wp2_with fail
  rw [HWW.out]
  refine HQ.out.mono ?_
  rintro e w1 ⟨rfl, hr1, hg1⟩
  have HL1 := Lib.hid (HL0.out.step hr1 hg1)
  clear hr1 hg1
  obtain ⟨bb, hbb⟩ : ∃ b, takes [32] s.data.toList o = b := ⟨_, rfl⟩
  rw [hbb]
  have HBB := Lib.hid hbb
  clear hbb
  cases bb
  · obtain ⟨e1, hno⟩ := takes_no HBB.out
    have HNO := Lib.hid hno
    have hL1 := HL1.out
    rw [e1] at hL1
    have HL1' := Lib.hid hL1
    clear HL1 e1 hno hL1
    cases o with
    | none =>
      obtain ⟨i, hi, hrd⟩ := HL1'.out.rd
      obtain ⟨d0, d1, d2, dz1, dz2⟩ := (show Rd w1 R s i true from hrd).cells
      have HRD := Lib.hid (show Rd w1 R s i true from hrd)
      clear hrd
      go_wp2_with fail
      have hx2 : LR wm (fun z => wb.heap.size ≤ z ∧ z ≠ w.heap.size + 1) R s (w.heap.size + 1) (w.heap.size + 1 + 1 + 1) none (w1.setCell ⟨R, 2, none⟩ (.bool true)).drew (.mk 7 E0 E0 0 Z0 Z0 [x]) (some ⟨w.heap.size + 1 + 1, 0, none⟩) 1 (tmL x tp tc rp rc p c) :=
        HL1'.out.step ⟨i, hi, (HRD.out.set true).1⟩ (grownBy_trans (HRD.out.set true).2 (gb_drew (grown_refl _ _)))
      have HX2 := Lib.hid hx2
      clear hx2
      go_region
      have hx2 := HX2.out
      clear HX2
      generalize (w1.setCell ⟨R, 2, none⟩ (.bool true)).drew = w2 at hx2 ⊢
      obtain ⟨i2, hi2, hrd2⟩ := hx2.rd
      have HX2 := Lib.hid hx2
      have HRD2 := Lib.hid hrd2
      clear d0 d1 d2 dz1 dz2 hx2
      obtain ⟨d0, d1, d2, dz1, dz2⟩ := hrd2.cells
      clear hrd2
      go_wp2_with fail
      go_quiet (fail)
      have hx3 : LR wm (fun z => wb.heap.size ≤ z ∧ z ≠ w.heap.size + 1) R s (w.heap.size + 1) (w.heap.size + 1 + 1 + 1) none ((w2.drewN nq).setCell ⟨R, 2, none⟩ (.bool true)) (.mk 7 E0 E0 0 Z0 Z0 [x]) (some ⟨w.heap.size + 1 + 1, 0, none⟩) 1 (tmL x tp tc rp rc p c) :=
        HX2.out.step ⟨i2, hi2, ((HRD2.out.drew nq).set true).1⟩ (grownBy_trans (grownBy_drewN (grown_refl _ _) nq) ((HRD2.out.drew nq).set true).2)
      have HX3 := Lib.hid hx3
      have k0 := cell_of_blk hx3.box 0
      have k1 := cell_of_blk hx3.box 1
      have k2 := cell_of_blk hx3.box 2
      have k3 := cell_of_blk hx3.box 3
      have k4 := cell_of_blk hx3.box 4
      have k5 := cell_of_blk hx3.box 5
      have k6 := cell_of_blk hx3.box 6
      have k7 := cell_of_blk hx3.box 7
      have k8 := cell_of_blk hx3.box 8
      have kz := unfrozen_of_blk hx3.box
      simp only [tmC, List.getElem?_toArray, List.getElem?_cons_zero, List.getElem?_cons_succ, Tm.kind, Tm.name, Tm.other, Tm.n, Tm.ty, Tm.res, Tm.args, Ty.kind, Ty.args, List.length_cons, List.length_nil] at k0 k1 k2 k3 k4 k5 k6 k7 k8
      have q0 := cell_of_blk hx3.out 0
      have q1 := cell_of_blk hx3.out 1
      have q2 := cell_of_blk hx3.out 2
      have q3 := cell_of_blk hx3.out 3
      have q4 := cell_of_blk hx3.out 4
      have q5 := cell_of_blk hx3.out 5
      have q6 := cell_of_blk hx3.out 6
      have q7 := cell_of_blk hx3.out 7
      have q8 := cell_of_blk hx3.out 8
      have qz := unfrozen_of_blk hx3.out
      simp only [List.getElem?_toArray, List.getElem?_cons_zero, List.getElem?_cons_succ] at q0 q1 q2 q3 q4 q5 q6 q7 q8
      clear hx3 d0 d1
      go_wp2_with fail
      refine bodyPost_ret (v := tmV (.mk 7 E0 E0 0 Z0 Z0 [x]) none 0 none 0 (some ⟨w.heap.size + 1 + 1, 0, none⟩) 1) ?_ rfl ?_
      · rw [results_cell1 rfl]
        go_simp
        all_goals (repeat' apply And.intro) <;> rfl
      · exact rest_fin (grownBy_trans HGM.out HX3.out.grown) hR (by have := HSZ.out; omega) HX3.out.rd (HX3.out.new.tm.mono (fun z hz _ => hz.1)) (rest_bad (fun j e => by cases e))
    | some i =>
      obtain ⟨hi, hrd⟩ := HL1'.out.rd
      obtain ⟨d0, d1, d2, dz1, dz2⟩ := (show Rd w1 R s i false from hrd).cells
      have HRD := Lib.hid (show Rd w1 R s i false from hrd)
      clear hrd
      have hpre := HNO.out i rfl
      have hp32 : ¬ s.data.toList[i]? = some 32 := fun e => by rw [(pre1 32 _ _).2 e] at hpre; cases hpre
      have HP32 := Lib.hid hp32
      have HHI := Lib.hid hi
      clear hpre hp32
      by_cases hend : i < s.size
      · have hge : decide (s.size ≤ i) = false := decide_eq_false (by omega)
        have HEND := Lib.hid hend
        go_wp2_with fail
        have hx2 : LR wm (fun z => wb.heap.size ≤ z ∧ z ≠ w.heap.size + 1) R s (w.heap.size + 1) (w.heap.size + 1 + 1 + 1) (some i) (w1.setCell ⟨R, 2, none⟩ (.bool false)).drew (.mk 7 E0 E0 0 Z0 Z0 [x]) (some ⟨w.heap.size + 1 + 1, 0, none⟩) 1 (tmL x tp tc rp rc p c) :=
          HL1'.out.step ⟨hi, (HRD.out.set false).1⟩ (grownBy_trans (HRD.out.set false).2 (gb_drew (grown_refl _ _)))
        have HX2 := Lib.hid hx2
        clear hx2
        go_region
        have hx2 := HX2.out
        clear HX2
        generalize (w1.setCell ⟨R, 2, none⟩ (.bool false)).drew = w2 at hx2 ⊢
        obtain ⟨hi2, hrd2⟩ := hx2.rd
        have HX2 := Lib.hid hx2
        have HRD2 := Lib.hid hrd2
        clear d0 d1 d2 dz1 dz2 hx2
        obtain ⟨d0, d1, d2, dz1, dz2⟩ := hrd2.cells
        clear hrd2
        have hi0 : (0 : Int) ≤ (i : Int) := by omega
        have hi1 : (i : Int) + 1 ≤ (s.size : Int) := by omega
        have hiw : (i : Int) ≤ (i : Int) + 1 := by omega
        obtain ⟨ch, hch⟩ : ∃ ch, s.data.toList[i]? = some ch := ⟨_, at_byte hend⟩
        have hone : (s.extract i (i + 1)).toList = [ch] := by
          rw [one_byte hend]
          rw [at_byte hend] at hch
          rw [Option.some.inj hch]
        have HONE := Lib.hid hone
        have HCH := Lib.hid hch
        clear hch hone hge
        have HOP := Lib.hid (fun W => opArS_any (s.extract i (i + 1)) W)
        go_wp2_with fail
        go_quiet (first | (go_at_call 108; refine Calls.quiet_of_same (HOP.out _)))
        rw [HONE.out]
        by_cases hop : opAr [ch] = 2
        · have hopb : (opAr [ch] != 2) = false := by simp [hop]
          have HOPB := Lib.hid hop
          have hy : s.extract i (i + 1) = ⟨#[ch]⟩ := by
            apply ByteArray.ext
            apply Array.toList_inj.1
            rw [← ByteArray.toList_eq]
            exact HONE.out
          have HY := Lib.hid hy
          have hx3 : LR wm (fun z => wb.heap.size ≤ z ∧ z ≠ w.heap.size + 1) R s (w.heap.size + 1) (w.heap.size + 1 + 1 + 1) (some i) (w2.drewN nq) (.mk 7 E0 E0 0 Z0 Z0 [x]) (some ⟨w.heap.size + 1 + 1, 0, none⟩) 1 (tmL x tp tc rp rc p c) := HX2.out.step ⟨hi2, HRD2.out.drew nq⟩ (grownBy_drewN (grown_refl _ _) nq)
          clear HX2 HRD2 d0 d1 d2 dz1 dz2 hop hy
          generalize w2.drewN nq = w3 at hx3 ⊢
          have hx4 := hx3.setKind 4
          have hx5 := hx4.setName (s.extract i (i + 1))
          obtain ⟨w4, hw4⟩ : ∃ w4, w3.setCell ⟨w.heap.size + 1 + 1 + 1, 0, none⟩ (.int .i64 4) = w4 := ⟨_, rfl⟩
          rw [hw4] at hx4 hx5
          have k0 := cell_of_blk hx3.box 0
          have kz := unfrozen_of_blk hx3.box
          have HX4 := Lib.hid hx4
          have HX5 := Lib.hid hx5
          have HW4 := Lib.hid hw4
          clear hw4 hx3 hx4 hx5
          go_wp2_with fail
          rw [HW4.out]
          clear k0 kz
          have k1 := cell_of_blk HX4.out.box 1
          have kz := unfrozen_of_blk HX4.out.box
          obtain ⟨hi4, hrd4⟩ := HX4.out.rd
          obtain ⟨d0, d1, d2, dz1, dz2⟩ := (show Rd w4 R s i false from hrd4).cells
          clear hrd4
          go_region
          clear d0 d1 d2 dz1 dz2 k1 kz
          have hx6 := HX5.out.step (rdo_drew HX5.out.rd) (gb_drew (grown_refl _ (some R)))
          generalize (w4.setCell ⟨w.heap.size + 1 + 1 + 1, 1, none⟩ (.string (s.extract i (i + 1)))).drew = w5 at hx6 ⊢
          obtain ⟨hi5, hrd5⟩ := hx6.rd
          obtain ⟨d0, d1, d2, dz1, dz2⟩ := (show Rd w5 R s i false from hrd5).cells
          have hL1 : LR wm (fun z => wb.heap.size ≤ z ∧ z ≠ w.heap.size + 1) R s (w.heap.size + 1) (w.heap.size + 1 + 1 + 1) (some (i + 1)) (w5.setCell ⟨R, 1, none⟩ (.int .i64 ((i : Int) + 1))) (.mk 4 (s.extract i (i + 1)) E0 0 Z0 Z0 [x]) (some ⟨w.heap.size + 1 + 1, 0, none⟩) 1 (tmL x tp tc rp rc p c) := by
            have h1 := (show Rd w5 R s i false from hrd5).at (i + 1)
            rw [show ((i + 1 : Nat) : Int) = (i : Int) + 1 by omega] at h1
            exact hx6.step ⟨by omega, h1.1⟩ h1.2
          have HLN := Lib.hid hL1
          have k0 := cell_of_blk hL1.box 0
          have k1 := cell_of_blk hL1.box 1
          have k2 := cell_of_blk hL1.box 2
          have k3 := cell_of_blk hL1.box 3
          have k4 := cell_of_blk hL1.box 4
          have k5 := cell_of_blk hL1.box 5
          have k6 := cell_of_blk hL1.box 6
          have k7 := cell_of_blk hL1.box 7
          have k8 := cell_of_blk hL1.box 8
          have kz := unfrozen_of_blk hL1.box
          simp only [tmC, List.getElem?_toArray, List.getElem?_cons_zero, List.getElem?_cons_succ, Tm.kind, Tm.name, Tm.other, Tm.n, Tm.ty, Tm.res, Tm.args, Ty.kind, Ty.args, List.length_cons, List.length_nil] at k0 k1 k2 k3 k4 k5 k6 k7 k8
          have HAR := Lib.hid (l6Args_any HT.out hs 1 (by decide) 4 (s.extract i (i + 1)) E0 0 Z0 Z0 [x] (by simp) none 0 none 0 (some ⟨w.heap.size + 1 + 1, 0, none⟩) 1 (tmL x tp tc rp rc p c) wm _ _ HLN.out.rd HLN.out.grown (fun z => wb.heap.size ≤ z ∧ z ≠ w.heap.size + 1) HLN.out.hR HLN.out.hCR (fun z hz => by have := HSZ.out; omega) (HLN.out.new.base (Nat.le_refl _) (fun z hz _ => hz.1)))
          clear hL1 hx6 hrd5
          go_wp2_with fail
          refine HAR.out.mono ?_
          rintro e we ⟨m, ts, o1, tp', tc', rp', rc', p', c', xs', hm, hend, har, rfl, hN, hre, hge⟩
          have hout := (hge.block _ HLN.out.hrb (fun e => HLN.out.ne (Option.some.inj e))).trans HM1.out
          have q0 := cell_of_blk hout 0
          have q1 := cell_of_blk hout 1
          have q2 := cell_of_blk hout 2
          have q3 := cell_of_blk hout 3
          have q4 := cell_of_blk hout 4
          have q5 := cell_of_blk hout 5
          have q6 := cell_of_blk hout 6
          have q7 := cell_of_blk hout 7
          have q8 := cell_of_blk hout 8
          have qz := unfrozen_of_blk hout
          simp only [List.getElem?_toArray, List.getElem?_cons_zero, List.getElem?_cons_succ] at q0 q1 q2 q3 q4 q5 q6 q7 q8
          have HARG := Lib.hid (args_pts (s := s.data.toList) (N := 1) (by decide) hm hend har)
          have HX := Lib.hid (And.intro (grownBy_trans HGM.out hge) (And.intro hre hN))
          clear hge hre hN hout har hend hm
          go_wp2_with fail
          refine bodyPost_ret (v := tmV (.mk 4 (s.extract i (i + 1)) E0 0 Z0 Z0 (x :: ts)) tp' tc' rp' rc' p' c') ?_ rfl ?_
          · rw [results_cell1 rfl]
            go_simp
            all_goals (repeat' apply And.intro) <;> rfl
          · obtain ⟨x1, x2, x3⟩ := HX.out
            exact rest_fin x1 hR (by have := HSZ.out; omega) x2 x3.tm (by rw [HY.out]; exact rest_op HP32.out HCH.out HOPB.out HARG.out)
        · have hopb : (opAr [ch] != 2) = true := by simp [hop]
          have HOPB := Lib.hid hop
          clear hop hi1 hiw
          have hx3 : LR wm (fun z => wb.heap.size ≤ z ∧ z ≠ w.heap.size + 1) R s (w.heap.size + 1) (w.heap.size + 1 + 1 + 1) none ((w2.drewN nq).setCell ⟨R, 2, none⟩ (.bool true)) (.mk 7 E0 E0 0 Z0 Z0 [x]) (some ⟨w.heap.size + 1 + 1, 0, none⟩) 1 (tmL x tp tc rp rc p c) :=
            HX2.out.step ⟨i, hi2, ((HRD2.out.drew nq).set true).1⟩ (grownBy_trans (grownBy_drewN (grown_refl _ _) nq) ((HRD2.out.drew nq).set true).2)
          have HX3 := Lib.hid hx3
          have k0 := cell_of_blk hx3.box 0
          have k1 := cell_of_blk hx3.box 1
          have k2 := cell_of_blk hx3.box 2
          have k3 := cell_of_blk hx3.box 3
          have k4 := cell_of_blk hx3.box 4
          have k5 := cell_of_blk hx3.box 5
          have k6 := cell_of_blk hx3.box 6
          have k7 := cell_of_blk hx3.box 7
          have k8 := cell_of_blk hx3.box 8
          have kz := unfrozen_of_blk hx3.box
          simp only [tmC, List.getElem?_toArray, List.getElem?_cons_zero, List.getElem?_cons_succ, Tm.kind, Tm.name, Tm.other, Tm.n, Tm.ty, Tm.res, Tm.args, Ty.kind, Ty.args, List.length_cons, List.length_nil] at k0 k1 k2 k3 k4 k5 k6 k7 k8
          have q0 := cell_of_blk hx3.out 0
          have q1 := cell_of_blk hx3.out 1
          have q2 := cell_of_blk hx3.out 2
          have q3 := cell_of_blk hx3.out 3
          have q4 := cell_of_blk hx3.out 4
          have q5 := cell_of_blk hx3.out 5
          have q6 := cell_of_blk hx3.out 6
          have q7 := cell_of_blk hx3.out 7
          have q8 := cell_of_blk hx3.out 8
          have qz := unfrozen_of_blk hx3.out
          simp only [List.getElem?_toArray, List.getElem?_cons_zero, List.getElem?_cons_succ] at q0 q1 q2 q3 q4 q5 q6 q7 q8
          clear hx3 d0 d1
          go_wp2_with fail
          refine bodyPost_ret (v := tmV (.mk 7 E0 E0 0 Z0 Z0 [x]) none 0 none 0 (some ⟨w.heap.size + 1 + 1, 0, none⟩) 1) ?_ rfl ?_
          · rw [results_cell1 rfl]
            go_simp
            all_goals (repeat' apply And.intro) <;> rfl
          · exact rest_fin (grownBy_trans HGM.out HX3.out.grown) hR (by have := HSZ.out; omega) HX3.out.rd (HX3.out.new.tm.mono (fun z hz _ => hz.1)) (rest_bad (fun j e => by cases e; exact ⟨HP32.out, fun c hc => by rw [HCH.out] at hc; cases hc; exact HOPB.out⟩))
      · have hge : decide (s.size ≤ i) = true := decide_eq_true (by omega)
        have HEND := Lib.hid hend
        go_wp2_with fail
        have hx2 : LR wm (fun z => wb.heap.size ≤ z ∧ z ≠ w.heap.size + 1) R s (w.heap.size + 1) (w.heap.size + 1 + 1 + 1) none (w1.setCell ⟨R, 2, none⟩ (.bool true)).drew (.mk 7 E0 E0 0 Z0 Z0 [x]) (some ⟨w.heap.size + 1 + 1, 0, none⟩) 1 (tmL x tp tc rp rc p c) :=
          HL1'.out.step ⟨i, hi, (HRD.out.set true).1⟩ (grownBy_trans (HRD.out.set true).2 (gb_drew (grown_refl _ _)))
        have HX2 := Lib.hid hx2
        clear hx2
        go_region
        have hx2 := HX2.out
        clear HX2
        generalize (w1.setCell ⟨R, 2, none⟩ (.bool true)).drew = w2 at hx2 ⊢
        obtain ⟨i2, hi2, hrd2⟩ := hx2.rd
        have HX2 := Lib.hid hx2
        have HRD2 := Lib.hid hrd2
        clear d0 d1 d2 dz1 dz2 hx2
        obtain ⟨d0, d1, d2, dz1, dz2⟩ := hrd2.cells
        clear hrd2
        clear hge
        go_wp2_with fail
        go_quiet (fail)
        have hx3 : LR wm (fun z => wb.heap.size ≤ z ∧ z ≠ w.heap.size + 1) R s (w.heap.size + 1) (w.heap.size + 1 + 1 + 1) none ((w2.drewN nq).setCell ⟨R, 2, none⟩ (.bool true)) (.mk 7 E0 E0 0 Z0 Z0 [x]) (some ⟨w.heap.size + 1 + 1, 0, none⟩) 1 (tmL x tp tc rp rc p c) :=
          HX2.out.step ⟨i2, hi2, ((HRD2.out.drew nq).set true).1⟩ (grownBy_trans (grownBy_drewN (grown_refl _ _) nq) ((HRD2.out.drew nq).set true).2)
        have HX3 := Lib.hid hx3
        have k0 := cell_of_blk hx3.box 0
        have k1 := cell_of_blk hx3.box 1
        have k2 := cell_of_blk hx3.box 2
        have k3 := cell_of_blk hx3.box 3
        have k4 := cell_of_blk hx3.box 4
        have k5 := cell_of_blk hx3.box 5
        have k6 := cell_of_blk hx3.box 6
        have k7 := cell_of_blk hx3.box 7
        have k8 := cell_of_blk hx3.box 8
        have kz := unfrozen_of_blk hx3.box
        simp only [tmC, List.getElem?_toArray, List.getElem?_cons_zero, List.getElem?_cons_succ, Tm.kind, Tm.name, Tm.other, Tm.n, Tm.ty, Tm.res, Tm.args, Ty.kind, Ty.args, List.length_cons, List.length_nil] at k0 k1 k2 k3 k4 k5 k6 k7 k8
        have q0 := cell_of_blk hx3.out 0
        have q1 := cell_of_blk hx3.out 1
        have q2 := cell_of_blk hx3.out 2
        have q3 := cell_of_blk hx3.out 3
        have q4 := cell_of_blk hx3.out 4
        have q5 := cell_of_blk hx3.out 5
        have q6 := cell_of_blk hx3.out 6
        have q7 := cell_of_blk hx3.out 7
        have q8 := cell_of_blk hx3.out 8
        have qz := unfrozen_of_blk hx3.out
        simp only [List.getElem?_toArray, List.getElem?_cons_zero, List.getElem?_cons_succ] at q0 q1 q2 q3 q4 q5 q6 q7 q8
        clear hx3 d0 d1
        go_wp2_with fail
        refine bodyPost_ret (v := tmV (.mk 7 E0 E0 0 Z0 Z0 [x]) none 0 none 0 (some ⟨w.heap.size + 1 + 1, 0, none⟩) 1) ?_ rfl ?_
        · rw [results_cell1 rfl]
          go_simp
          all_goals (repeat' apply And.intro) <;> rfl
        · exact rest_fin (grownBy_trans HGM.out HX3.out.grown) hR (by have := HSZ.out; omega) HX3.out.rd (HX3.out.new.tm.mono (fun z hz _ => hz.1)) (rest_bad (fun j e => by cases e; exact ⟨HP32.out, fun c hc => by rw [at_none HEND.out] at hc; cases hc⟩))
  · obtain ⟨j, rfl, hsj, htk⟩ := takes_yes HBB.out
    have hL1 := HL1.out
    rw [htk] at hL1
    have HLN := Lib.hid hL1
    have HSJ := Lib.hid hsj
    have k0 := cell_of_blk hL1.box 0
    have k1 := cell_of_blk hL1.box 1
    have k2 := cell_of_blk hL1.box 2
    have k3 := cell_of_blk hL1.box 3
    have k4 := cell_of_blk hL1.box 4
    have k5 := cell_of_blk hL1.box 5
    have k6 := cell_of_blk hL1.box 6
    have k7 := cell_of_blk hL1.box 7
    have k8 := cell_of_blk hL1.box 8
    have kz := unfrozen_of_blk hL1.box
    simp only [tmC, List.getElem?_toArray, List.getElem?_cons_zero, List.getElem?_cons_succ, Tm.kind, Tm.name, Tm.other, Tm.n, Tm.ty, Tm.res, Tm.args, Ty.kind, Ty.args, List.length_cons, List.length_nil] at k0 k1 k2 k3 k4 k5 k6 k7 k8
    have HAR := Lib.hid (l6Args_any HT.out hs 1 (by decide) 7 E0 E0 0 Z0 Z0 [x] (by simp) none 0 none 0 (some ⟨w.heap.size + 1 + 1, 0, none⟩) 1 (tmL x tp tc rp rc p c) wm w1 _ HLN.out.rd HLN.out.grown (fun z => wb.heap.size ≤ z ∧ z ≠ w.heap.size + 1) HLN.out.hR HLN.out.hCR (fun z hz => by have := HSZ.out; omega) (HLN.out.new.base (Nat.le_refl _) (fun z hz _ => hz.1)))
    clear hL1 hsj htk HL1
    go_wp2_with fail
    refine HAR.out.mono ?_
    rintro e we ⟨m, ts, o1, tp', tc', rp', rc', p', c', xs', hm, hend, har, rfl, hN, hre, hge⟩
    have hout := (hge.block _ HLN.out.hrb (fun e => HLN.out.ne (Option.some.inj e))).trans HM1.out
    have q0 := cell_of_blk hout 0
    have q1 := cell_of_blk hout 1
    have q2 := cell_of_blk hout 2
    have q3 := cell_of_blk hout 3
    have q4 := cell_of_blk hout 4
    have q5 := cell_of_blk hout 5
    have q6 := cell_of_blk hout 6
    have q7 := cell_of_blk hout 7
    have q8 := cell_of_blk hout 8
    have qz := unfrozen_of_blk hout
    simp only [List.getElem?_toArray, List.getElem?_cons_zero, List.getElem?_cons_succ] at q0 q1 q2 q3 q4 q5 q6 q7 q8
    have HARG := Lib.hid (args_pts (s := s.data.toList) (N := 1) (by decide) hm hend har)
    have HX := Lib.hid (And.intro (grownBy_trans HGM.out hge) (And.intro hre hN))
    clear hge hre hN hout har hend hm
    go_wp2_with fail
    refine bodyPost_ret (v := tmV (.mk 7 E0 E0 0 Z0 Z0 (x :: ts)) tp' tc' rp' rc' p' c') ?_ rfl ?_
    · rw [results_cell1 rfl]
      go_simp
      all_goals (repeat' apply And.intro) <;> rfl
    · obtain ⟨x1, x2, x3⟩ := HX.out
      exact rest_fin x1 hR (by have := HSZ.out; omega) x2 x3.tm (rest_app HSJ.out HARG.out)
end Go.Proofs.YtjobmgbchpoheaaGreatDoor
