/-
  Several texts of the proof in one (each says below what it holds): RdT RdU Bent TmBent TmDrawV RdK RdI5 RdI6 RdI7 TmRead2 RdI8 Bld.
-/
import Derived.Test.YtfeijijeohfpgaaGreatDoorLv9
import Derived.Test.YtfeijijeohfpgaaGreatDoorLv4
import Derived.Test.YtfeijijeohfpgaaGreatDoorLv5
import Derived.Test.YtfeijijeohfpgaaGreatDoorLv8
import Derived.Test.YtfeijijeohfpgaaGreatDoorLv1
import Derived.Deep.RegionHeldLaw
import Derived.Shelf.Strings.Builder1
import Derived.Laws.Entries
import Derived.Lib.UnsafeStr
set_option linter.unusedVariables false
set_option linter.unusedSimpArgs false
namespace Go.Proofs.YtfeijijeohfpgaaGreatDoor
open Go Go.RowKit
def RestRet (f' : Nat → Option (Tm × Nat)) (R : Nat) (s : ByteArray) (o : Option Nat) (wb : World) (e : Ending) (w' : World) : Prop :=
  ∃ v t o', e = .returned v ∧ TM w' (fun z => wb.heap.size ≤ z) t v ∧ termO f' o t o' ∧ RdO w' R s o' ∧ wb.grownBy w' (some R)
theorem rest_fin {f' : Nat → Option (Tm × Nat)} {wb W : World} {R rb : Nat} {s : ByteArray} {o o' : Option Nat} {t : Tm} {tp rp p : Option Addr} {tc rc c : Nat} (hg : wb.grownBy W (some R)) (hR : R < wb.heap.size) (hrb : wb.heap.size ≤ rb) (hr : RdO W R s o') (hN : TM' W (fun z => wb.heap.size ≤ z ∧ z ≠ rb) t tp tc rp rc p c) (ho : termO f' o t o') :
    RestRet f' R s o wb (.returned (tmV t tp tc rp rc p c)) (((((((((W.setCell ⟨rb, 0, none⟩ (.int .i64 t.kind)).setCell ⟨rb, 1, none⟩ (.string t.name)).setCell ⟨rb, 2, none⟩ (.string t.other)).setCell ⟨rb, 3, none⟩ (.int .i64 t.n)).setCell ⟨rb, 4, none⟩ (.int .i64 t.ty.kind)).setCell ⟨rb, 5, none⟩ (.slice tp t.ty.args.length tc)).setCell ⟨rb, 6, none⟩ (.int .i64 t.res.kind)).setCell ⟨rb, 7, none⟩ (.slice rp t.res.args.length rc)).setCell ⟨rb, 8, none⟩ (.slice p t.args.length c)) := by
  have hst := set9_stays W rb (.int .i64 t.kind) (.string t.name) (.string t.other) (.int .i64 t.n) (.int .i64 t.ty.kind) (.slice tp t.ty.args.length tc) (.int .i64 t.res.kind) (.slice rp t.res.args.length rc) (.slice p t.args.length c) (fun z => wb.heap.size ≤ z ∧ z ≠ rb) (fun h => h.2 rfl)
  have hb := set9_below W rb rb (.int .i64 t.kind) (.string t.name) (.string t.other) (.int .i64 t.n) (.int .i64 t.ty.kind) (.slice tp t.ty.args.length tc) (.int .i64 t.res.kind) (.slice rp t.res.args.length rc) (.slice p t.args.length c) (Nat.le_refl _)
  exact ⟨_, t, o', rfl, ⟨tp, tc, rp, rc, p, c, rfl, (hN.stays hst).mono (fun z hz _ => hz.1)⟩, ho, hr.belowAt (by omega) hb, gb_more hg hrb hb⟩
structure LR (wm : World) (C : Nat → Prop) (R : Nat) (s : ByteArray) (rb bx : Nat) (q : Option Nat) (W : World) (t : Tm) (p : Option Addr) (c : Nat) (xs : List Value) : Prop where
  rd : RdO W R s q
  grown : wm.grownBy W (some R)
  out : W.heap[rb]? = some (.cells zeroC 29 (0, 0))
  box : W.heap[bx]? = some (.cells (tmC t none 0 none 0 p c) 29 (0, 0))
  new : NewTm W wm.heap.size (fun z => C z ∧ z ≠ bx) t none 0 none 0 p c xs
  hR : R < wm.heap.size
  hCR : ∀ z, C z → z ≠ R
  hrb : rb < wm.heap.size
  ne : rb ≠ R
  hb : wm.heap.size ≤ bx
section
variable {wm W W' : World} {C : Nat → Prop} {R bx rb : Nat} {s : ByteArray} {q q' : Option Nat} {t : Tm} {k n : Int} {a o : ByteArray} {ts : List Tm} {p : Option Addr} {c : Nat} {xs : List Value}
theorem LR.step (h : LR wm C R s rb bx q W t p c xs) (hr : RdO W' R s q') (hg : W.grownBy W' (some R)) : LR wm C R s rb bx q' W' t p c xs := by
  have hR := h.hR
  have hb := h.hb
  have l1 := (Array.getElem?_eq_some_iff.1 h.out).1
  have l2 := (Array.getElem?_eq_some_iff.1 h.box).1
  exact ⟨hr, grownBy_trans h.grown hg, (hg.block _ l1 (fun e => h.ne (Option.some.inj e))).trans h.out, (hg.block _ l2 (fun e => by have := Option.some.inj e; omega)).trans h.box,
    h.new.stays ⟨hg.size, fun z hz hl => hg.block z hl (fun e => h.hCR z hz.1 (Option.some.inj e))⟩, h.hR, h.hCR, h.hrb, h.ne, h.hb⟩
theorem LR.set1 (h : LR wm C R s rb bx q W (.mk k a o n Z0 Z0 ts) p c xs) (i : Nat) (v : Value) (k' : Int) (a' : ByteArray) (hbx : (W.setCell ⟨bx, i, none⟩ v).heap[bx]? = some (.cells (tmC (.mk k' a' o n Z0 Z0 ts) none 0 none 0 p c) 29 (0, 0))) :
    LR wm C R s rb bx q (W.setCell ⟨bx, i, none⟩ v) (.mk k' a' o n Z0 Z0 ts) p c xs := by
  have hb := h.hb
  have hR := h.hR
  have hrb := h.hrb
  have hbs : Below bx W (W.setCell ⟨bx, i, none⟩ v) := (Below.refl _ W).setCell (p := ⟨bx, i, none⟩) (Nat.le_refl _) _
  have hn := h.new.stays (setCell_stays W bx i v (fun z => C z ∧ z ≠ bx) (fun e => e.2 rfl))
  exact ⟨h.rd.belowAt (by omega) hbs, gb_more h.grown hb hbs, (hbs.block _ (by omega)).trans h.out, hbx, ⟨hn.ty, hn.res, hn.row⟩, hR, h.hCR, hrb, h.ne, hb⟩
theorem LR.setKind (h : LR wm C R s rb bx q W (.mk k a o n Z0 Z0 ts) p c xs) (y : Int) : LR wm C R s rb bx q (W.setCell ⟨bx, 0, none⟩ (.int .i64 y)) (.mk y a o n Z0 Z0 ts) p c xs :=
  h.set1 0 _ y a (by rw [Go.Joins.block_setCell h.box _]; rfl)
theorem LR.setName (h : LR wm C R s rb bx q W (.mk k a o n Z0 Z0 ts) p c xs) (y : ByteArray) : LR wm C R s rb bx q (W.setCell ⟨bx, 1, none⟩ (.string y)) (.mk k y o n Z0 Z0 ts) p c xs :=
  h.set1 1 _ k y (by rw [Go.Joins.block_setCell h.box _]; rfl)
end
theorem takes_yes {c : UInt8} {s : List UInt8} {o : Option Nat} (h : takes [c] s o = true) : ∃ j, o = some j ∧ s[j]? = some c ∧ takeO [c] s o = some (j + 1) := by
  cases o with
  | none => cases h
  | some j =>
    have h2 : pre [c] s j = true := h
    exact ⟨j, rfl, (pre1 c s j).1 h2, by simp [takeO, h2]⟩
theorem takes_no {q s : List UInt8} {o : Option Nat} (h : takes q s o = false) : takeO q s o = o ∧ ∀ j, o = some j → pre q s j = false := by
  cases o with
  | none => exact ⟨rfl, fun j e => by cases e⟩
  | some j =>
    have h2 : pre q s j = false := h
    exact ⟨by simp [takeO, h2], fun i e => by cases e; exact h2⟩
theorem rowm_one {W : World} {base b : Nat} {C : Nat → Prop} {t : Tm} {tp rp p : Option Addr} {tc rc c : Nat} (hb : W.heap[b]? = some (.cells (tmC t tp tc rp rc p c) 29 (0, 0))) (hg : base ≤ b) (hC : C b) (h : TM' W (fun z => C z ∧ z ≠ b) t tp tc rp rc p c) :
    RowM W base C (.slice (some ⟨b, 0, none⟩) 1 1) [t] (tmL t tp tc rp rc p c) := by
  refine ⟨⟨rfl, Or.inr ⟨b, 1, _, rfl, hg, hb, Nat.le_refl _, by unfold maxLen; omega, rfl, rfl⟩⟩, fun g hg => ?_, ?_⟩
  · simp [Value.ownBlock] at hg
    exact hg ▸ hC
  · have hf : flatTm [t] = t.ds := by simp [flatTm]
    rw [hf]
    exact (h.mono (C' := fun z => C z ∧ (Value.slice (some ⟨b, 0, none⟩) 1 1).ownBlock ≠ some z) (fun z hz _ => ⟨hz.1, fun e => by simp [Value.ownBlock] at e; exact hz.2 e.symm⟩)).ms
theorem rest_app {f : Nat → Option (Tm × Nat)} {s : List UInt8} {x : Tm} {j : Nat} {ts : List Tm} {o' : Option Nat} (hc : s[j]? = some 32) (h : argsP f s [41] (some (j + 1)) ts o') : termO (fun j => pRest s f x j) (some j) (.mk 7 E0 E0 0 Z0 Z0 (x :: ts)) o' := by
  rcases h with ⟨i, h, rfl⟩ | ⟨h, rfl⟩
  · exact Or.inl ⟨i, by simp only [pRest, hc, if_true, h, Option.map_some]; rfl, rfl⟩
  · exact Or.inr ⟨by simp only [pRest, hc, if_true, h, Option.map_none], rfl⟩
theorem rest_op {f : Nat → Option (Tm × Nat)} {s : List UInt8} {x : Tm} {j : Nat} {ts : List Tm} {o' : Option Nat} {c : UInt8} (hn : ¬ s[j]? = some 32) (hc : s[j]? = some c) (ha : opAr [c] = 2) (h : argsP f s [41] (some (j + 1)) ts o') : termO (fun j => pRest s f x j) (some j) (.mk 4 ⟨#[c]⟩ E0 0 Z0 Z0 (x :: ts)) o' := by
  rcases h with ⟨i, h, rfl⟩ | ⟨h, rfl⟩
  · refine Or.inl ⟨i, ?_, rfl⟩
    simp only [pRest]
    rw [if_neg hn, hc]
    simp only [ha, if_true, h, Option.map_some]
    rfl
  · refine Or.inr ⟨?_, rfl⟩
    simp only [pRest]
    rw [if_neg hn, hc]
    simp only [ha, if_true, h, Option.map_none]
theorem rest_bad {f : Nat → Option (Tm × Nat)} {s : List UInt8} {x t : Tm} {o : Option Nat} (h : ∀ j, o = some j → ¬ s[j]? = some 32 ∧ ∀ c, s[j]? = some c → ¬ opAr [c] = 2) : termO (fun j => pRest s f x j) o t none := by
  cases o with
  | none => rfl
  | some j =>
    obtain ⟨h1, h2⟩ := h j rfl
    refine Or.inr ⟨?_, rfl⟩
    simp only [pRest]
    rw [if_neg h1]
    cases hc : s[j]? with
    | none => rfl
    | some c => simp only [if_neg (h2 c hc)]
set_option maxRecDepth 100000 in
set_option maxHeartbeats 8000000 in
theorem l6Rest_any {f : Nat → Option (Tm × Nat)} {R : Nat} {s : ByteArray} {D : Int} (hT : TermIs f R s D) (hs : s.size ≤ 1073741824) (x : Tm) (tp : Option Addr) (tc : Nat) (rp : Option Addr) (rc : Nat) (p : Option Addr) (c : Nat) (o : Option Nat) (wb w : World) (hr : RdO w R s o) (hg : wb.grownBy w (some R)) (hR : R < wb.heap.size)
    (hx : TM' w (fun z => wb.heap.size ≤ z) x tp tc rp rc p c) :
    Calls Tryz.prog 235 #[.pointer (some ⟨R, 0, none⟩), tmV x tp tc rp rc p c, .int .i64 D] w (RestRet (fun j => pRest s.data.toList f x j) R s o wb) := by
  have hsz := hg.size
  obtain ⟨wm, hwm, hsm, hbm, m0, m1⟩ := box_new2 w (tmC x tp tc rp rc p c) zeroC 29 29
  obtain ⟨w0, hw0, hs0, hb0, r2, r3⟩ := box_new2 wm (tmC x tp tc rp rc p c) #[.int .i64 7, .string ⟨#[]⟩, .string ⟨#[]⟩, .int .i64 0, .int .i64 0, .slice none 0 0, .int .i64 0, .slice none 0 0, .slice (some ⟨w.heap.size + 1 + 1, 0, none⟩) 1 1] 29 29
  have hgm : wb.grownBy wm (some R) := gb_more hg hsz hbm
  have hsm' : wm.heap.size = w.heap.size + 1 + 1 := hsm
  rw [hsm'] at r2 r3
  have hww : (((w.alloc (.cells (tmC x tp tc rp rc p c) 29)).alloc (.cells #[.int .i64 0, .string ⟨#[]⟩, .string ⟨#[]⟩, .int .i64 0, .int .i64 0, .slice none 0 0, .int .i64 0, .slice none 0 0, .slice none 0 0] 29)).alloc (.cells (tmC x tp tc rp rc p c) 29)).alloc (.cells #[.int .i64 7, .string ⟨#[]⟩, .string ⟨#[]⟩, .int .i64 0, .int .i64 0, .slice none 0 0, .int .i64 0, .slice none 0 0, .slice (some ⟨w.heap.size + 1 + 1, 0, none⟩) 1 1] 29) = w0 := by
    rw [← hw0, ← hwm]
  have hL0 : LR wm (fun z => wb.heap.size ≤ z ∧ z ≠ w.heap.size + 1) R s (w.heap.size + 1) (w.heap.size + 1 + 1 + 1) o w0 (.mk 7 E0 E0 0 Z0 Z0 [x]) (some ⟨w.heap.size + 1 + 1, 0, none⟩) 1 (tmL x tp tc rp rc p c) := by
    refine ⟨(hr.below hbm).below hb0, gb_below hb0 (some R), (hb0.block _ (by omega)).trans m1, r3, ⟨.nil _ _, .nil _ _, ?_⟩, by omega, fun z hz e => by omega, by omega, by omega, by omega⟩
    exact rowm_one r2 (by omega) ⟨⟨by omega, by omega⟩, by omega⟩ ((((hx.mono (C' := fun z => wb.heap.size ≤ z ∧ z < w.heap.size) (fun z hz hl => ⟨hz, hl⟩)).stays (.of_below hbm)).stays (.of_below hb0)).mono (fun z hz hl => ⟨⟨⟨hz.1, by omega⟩, by omega⟩, by omega⟩))
  have HL0 := Lib.hid hL0
  have HWW := Lib.hid hww
  have HGM := Lib.hid hgm
  have HM1 := Lib.hid m1
  have HSZ := Lib.hid (And.intro hsz hsm')
  have HT := Lib.hid hT
  have HQ := Lib.hid (takeO_any [32] (by decide) hs hL0.rd)
  clear hbm m0 m1 hb0 r2 r3 hs0 hr hg hx hT hL0 hw0 hwm hgm hsz hsm hsm' hww
  go_enter Tryz.func235, Tryz.ntmps235
  go_wp2_with fail
  rw [HWW.out]
  refine HQ.out.mono ?_
  rintro e w1 ⟨rfl, hr1, hg1⟩
  have HL1 := Lib.hid (HL0.out.step hr1 hg1)
  clear hr1 hg1
  obtain ⟨bb, hbb⟩ : ∃ b, takes [32] s.data.toList o = b := ⟨_, rfl⟩
  rw [hbb]
  have HBB := Lib.hid hbb
  clear hbb
  cases bb
  · obtain ⟨e1, hno⟩ := takes_no HBB.out
    have HNO := Lib.hid hno
    have hL1 := HL1.out
    rw [e1] at hL1
    have HL1' := Lib.hid hL1
    clear HL1 e1 hno hL1
    cases o with
    | none =>
      obtain ⟨i, hi, hrd⟩ := HL1'.out.rd
      obtain ⟨d0, d1, d2, dz1, dz2⟩ := (show Rd w1 R s i true from hrd).cells
      have HRD := Lib.hid (show Rd w1 R s i true from hrd)
      clear hrd
      go_wp2_with fail
      have hx2 : LR wm (fun z => wb.heap.size ≤ z ∧ z ≠ w.heap.size + 1) R s (w.heap.size + 1) (w.heap.size + 1 + 1 + 1) none (w1.setCell ⟨R, 2, none⟩ (.bool true)).drew (.mk 7 E0 E0 0 Z0 Z0 [x]) (some ⟨w.heap.size + 1 + 1, 0, none⟩) 1 (tmL x tp tc rp rc p c) :=
        HL1'.out.step ⟨i, hi, (HRD.out.set true).1⟩ (grownBy_trans (HRD.out.set true).2 (gb_drew (grown_refl _ _)))
      have HX2 := Lib.hid hx2
      clear hx2
      go_region
      have hx2 := HX2.out
      clear HX2
      generalize (w1.setCell ⟨R, 2, none⟩ (.bool true)).drew = w2 at hx2 ⊢
      obtain ⟨i2, hi2, hrd2⟩ := hx2.rd
      have HX2 := Lib.hid hx2
      have HRD2 := Lib.hid hrd2
      clear d0 d1 d2 dz1 dz2 hx2
      obtain ⟨d0, d1, d2, dz1, dz2⟩ := hrd2.cells
      clear hrd2
      go_wp2_with fail
      go_quiet (fail)
      have hx3 : LR wm (fun z => wb.heap.size ≤ z ∧ z ≠ w.heap.size + 1) R s (w.heap.size + 1) (w.heap.size + 1 + 1 + 1) none ((w2.drewN nq).setCell ⟨R, 2, none⟩ (.bool true)) (.mk 7 E0 E0 0 Z0 Z0 [x]) (some ⟨w.heap.size + 1 + 1, 0, none⟩) 1 (tmL x tp tc rp rc p c) :=
        HX2.out.step ⟨i2, hi2, ((HRD2.out.drew nq).set true).1⟩ (grownBy_trans (grownBy_drewN (grown_refl _ _) nq) ((HRD2.out.drew nq).set true).2)
      have HX3 := Lib.hid hx3
      have k0 := cell_of_blk hx3.box 0
      have k1 := cell_of_blk hx3.box 1
      have k2 := cell_of_blk hx3.box 2
      have k3 := cell_of_blk hx3.box 3
      have k4 := cell_of_blk hx3.box 4
      have k5 := cell_of_blk hx3.box 5
      have k6 := cell_of_blk hx3.box 6
      have k7 := cell_of_blk hx3.box 7
      have k8 := cell_of_blk hx3.box 8
      have kz := unfrozen_of_blk hx3.box
      simp only [tmC, List.getElem?_toArray, List.getElem?_cons_zero, List.getElem?_cons_succ, Tm.kind, Tm.name, Tm.other, Tm.n, Tm.ty, Tm.res, Tm.args, Ty.kind, Ty.args, List.length_cons, List.length_nil] at k0 k1 k2 k3 k4 k5 k6 k7 k8
      have q0 := cell_of_blk hx3.out 0
      have q1 := cell_of_blk hx3.out 1
      have q2 := cell_of_blk hx3.out 2
      have q3 := cell_of_blk hx3.out 3
      have q4 := cell_of_blk hx3.out 4
      have q5 := cell_of_blk hx3.out 5
      have q6 := cell_of_blk hx3.out 6
      have q7 := cell_of_blk hx3.out 7
      have q8 := cell_of_blk hx3.out 8
      have qz := unfrozen_of_blk hx3.out
      simp only [List.getElem?_toArray, List.getElem?_cons_zero, List.getElem?_cons_succ] at q0 q1 q2 q3 q4 q5 q6 q7 q8
      clear hx3 d0 d1
      go_wp2_with fail
      refine bodyPost_ret (v := tmV (.mk 7 E0 E0 0 Z0 Z0 [x]) none 0 none 0 (some ⟨w.heap.size + 1 + 1, 0, none⟩) 1) ?_ rfl ?_
      · rw [results_cell1 rfl]
        go_simp
        all_goals (repeat' apply And.intro) <;> rfl
      · exact rest_fin (grownBy_trans HGM.out HX3.out.grown) hR (by have := HSZ.out; omega) HX3.out.rd (HX3.out.new.tm.mono (fun z hz _ => hz.1)) (rest_bad (fun j e => by cases e))
    | some i =>
      obtain ⟨hi, hrd⟩ := HL1'.out.rd
      obtain ⟨d0, d1, d2, dz1, dz2⟩ := (show Rd w1 R s i false from hrd).cells
      have HRD := Lib.hid (show Rd w1 R s i false from hrd)
      clear hrd
      have hpre := HNO.out i rfl
      have hp32 : ¬ s.data.toList[i]? = some 32 := fun e => by rw [(pre1 32 _ _).2 e] at hpre; cases hpre
      have HP32 := Lib.hid hp32
      have HHI := Lib.hid hi
      clear hpre hp32
      by_cases hend : i < s.size
      · have hge : decide (s.size ≤ i) = false := decide_eq_false (by omega)
        have HEND := Lib.hid hend
        go_wp2_with fail
        have hx2 : LR wm (fun z => wb.heap.size ≤ z ∧ z ≠ w.heap.size + 1) R s (w.heap.size + 1) (w.heap.size + 1 + 1 + 1) (some i) (w1.setCell ⟨R, 2, none⟩ (.bool false)).drew (.mk 7 E0 E0 0 Z0 Z0 [x]) (some ⟨w.heap.size + 1 + 1, 0, none⟩) 1 (tmL x tp tc rp rc p c) :=
          HL1'.out.step ⟨hi, (HRD.out.set false).1⟩ (grownBy_trans (HRD.out.set false).2 (gb_drew (grown_refl _ _)))
        have HX2 := Lib.hid hx2
        clear hx2
        go_region
        have hx2 := HX2.out
        clear HX2
        generalize (w1.setCell ⟨R, 2, none⟩ (.bool false)).drew = w2 at hx2 ⊢
        obtain ⟨hi2, hrd2⟩ := hx2.rd
        have HX2 := Lib.hid hx2
        have HRD2 := Lib.hid hrd2
        clear d0 d1 d2 dz1 dz2 hx2
        obtain ⟨d0, d1, d2, dz1, dz2⟩ := hrd2.cells
        clear hrd2
        have hi0 : (0 : Int) ≤ (i : Int) := by omega
        have hi1 : (i : Int) + 1 ≤ (s.size : Int) := by omega
        have hiw : (i : Int) ≤ (i : Int) + 1 := by omega
        obtain ⟨ch, hch⟩ : ∃ ch, s.data.toList[i]? = some ch := ⟨_, at_byte hend⟩
        have hone : (s.extract i (i + 1)).toList = [ch] := by
          rw [one_byte hend]
          rw [at_byte hend] at hch
          rw [Option.some.inj hch]
        have HONE := Lib.hid hone
        have HCH := Lib.hid hch
        clear hch hone hge
        have HOP := Lib.hid (fun W => opArS_any (s.extract i (i + 1)) W)
        go_wp2_with fail
        go_quiet (first | (go_at_call 153; refine Calls.quiet_of_same (HOP.out _)))
        rw [HONE.out]
        by_cases hop : opAr [ch] = 2
        · have hopb : (opAr [ch] != 2) = false := by simp [hop]
          have HOPB := Lib.hid hop
          have hy : s.extract i (i + 1) = ⟨#[ch]⟩ := by
            apply ByteArray.ext
            apply Array.toList_inj.1
            rw [← ByteArray.toList_eq]
            exact HONE.out
          have HY := Lib.hid hy
          have hx3 : LR wm (fun z => wb.heap.size ≤ z ∧ z ≠ w.heap.size + 1) R s (w.heap.size + 1) (w.heap.size + 1 + 1 + 1) (some i) (w2.drewN nq) (.mk 7 E0 E0 0 Z0 Z0 [x]) (some ⟨w.heap.size + 1 + 1, 0, none⟩) 1 (tmL x tp tc rp rc p c) := HX2.out.step ⟨hi2, HRD2.out.drew nq⟩ (grownBy_drewN (grown_refl _ _) nq)
          clear HX2 HRD2 d0 d1 d2 dz1 dz2 hop hy
          generalize w2.drewN nq = w3 at hx3 ⊢
          have hx4 := hx3.setKind 4
          have hx5 := hx4.setName (s.extract i (i + 1))
          obtain ⟨w4, hw4⟩ : ∃ w4, w3.setCell ⟨w.heap.size + 1 + 1 + 1, 0, none⟩ (.int .i64 4) = w4 := ⟨_, rfl⟩
          rw [hw4] at hx4 hx5
          have k0 := cell_of_blk hx3.box 0
          have kz := unfrozen_of_blk hx3.box
          have HX4 := Lib.hid hx4
          have HX5 := Lib.hid hx5
          have HW4 := Lib.hid hw4
          clear hw4 hx3 hx4 hx5
          go_wp2_with fail
          rw [HW4.out]
          clear k0 kz
          have k1 := cell_of_blk HX4.out.box 1
          have kz := unfrozen_of_blk HX4.out.box
          obtain ⟨hi4, hrd4⟩ := HX4.out.rd
          obtain ⟨d0, d1, d2, dz1, dz2⟩ := (show Rd w4 R s i false from hrd4).cells
          clear hrd4
          go_region
          clear d0 d1 d2 dz1 dz2 k1 kz
          have hx6 := HX5.out.step (rdo_drew HX5.out.rd) (gb_drew (grown_refl _ (some R)))
          generalize (w4.setCell ⟨w.heap.size + 1 + 1 + 1, 1, none⟩ (.string (s.extract i (i + 1)))).drew = w5 at hx6 ⊢
          obtain ⟨hi5, hrd5⟩ := hx6.rd
          obtain ⟨d0, d1, d2, dz1, dz2⟩ := (show Rd w5 R s i false from hrd5).cells
          have hL1 : LR wm (fun z => wb.heap.size ≤ z ∧ z ≠ w.heap.size + 1) R s (w.heap.size + 1) (w.heap.size + 1 + 1 + 1) (some (i + 1)) (w5.setCell ⟨R, 1, none⟩ (.int .i64 ((i : Int) + 1))) (.mk 4 (s.extract i (i + 1)) E0 0 Z0 Z0 [x]) (some ⟨w.heap.size + 1 + 1, 0, none⟩) 1 (tmL x tp tc rp rc p c) := by
            have h1 := (show Rd w5 R s i false from hrd5).at (i + 1)
            rw [show ((i + 1 : Nat) : Int) = (i : Int) + 1 by omega] at h1
            exact hx6.step ⟨by omega, h1.1⟩ h1.2
          have HLN := Lib.hid hL1
          have k0 := cell_of_blk hL1.box 0
          have k1 := cell_of_blk hL1.box 1
          have k2 := cell_of_blk hL1.box 2
          have k3 := cell_of_blk hL1.box 3
          have k4 := cell_of_blk hL1.box 4
          have k5 := cell_of_blk hL1.box 5
          have k6 := cell_of_blk hL1.box 6
          have k7 := cell_of_blk hL1.box 7
          have k8 := cell_of_blk hL1.box 8
          have kz := unfrozen_of_blk hL1.box
          simp only [tmC, List.getElem?_toArray, List.getElem?_cons_zero, List.getElem?_cons_succ, Tm.kind, Tm.name, Tm.other, Tm.n, Tm.ty, Tm.res, Tm.args, Ty.kind, Ty.args, List.length_cons, List.length_nil] at k0 k1 k2 k3 k4 k5 k6 k7 k8
          have HAR := Lib.hid (l6Args_any HT.out hs 1 (by decide) 4 (s.extract i (i + 1)) E0 0 Z0 Z0 [x] (by simp) none 0 none 0 (some ⟨w.heap.size + 1 + 1, 0, none⟩) 1 (tmL x tp tc rp rc p c) wm _ _ HLN.out.rd HLN.out.grown (fun z => wb.heap.size ≤ z ∧ z ≠ w.heap.size + 1) HLN.out.hR HLN.out.hCR (fun z hz => by have := HSZ.out; omega) (HLN.out.new.base (Nat.le_refl _) (fun z hz _ => hz.1)))
          clear hL1 hx6 hrd5
          go_wp2_with fail
          refine HAR.out.mono ?_
          rintro e we ⟨m, ts, o1, tp', tc', rp', rc', p', c', xs', hm, hend, har, rfl, hN, hre, hge⟩
          have hout := (hge.block _ HLN.out.hrb (fun e => HLN.out.ne (Option.some.inj e))).trans HM1.out
          have q0 := cell_of_blk hout 0
          have q1 := cell_of_blk hout 1
          have q2 := cell_of_blk hout 2
          have q3 := cell_of_blk hout 3
          have q4 := cell_of_blk hout 4
          have q5 := cell_of_blk hout 5
          have q6 := cell_of_blk hout 6
          have q7 := cell_of_blk hout 7
          have q8 := cell_of_blk hout 8
          have qz := unfrozen_of_blk hout
          simp only [List.getElem?_toArray, List.getElem?_cons_zero, List.getElem?_cons_succ] at q0 q1 q2 q3 q4 q5 q6 q7 q8
          have HARG := Lib.hid (args_pts (s := s.data.toList) (N := 1) (by decide) hm hend har)
          have HX := Lib.hid (And.intro (grownBy_trans HGM.out hge) (And.intro hre hN))
          clear hge hre hN hout har hend hm
          go_wp2_with fail
          refine bodyPost_ret (v := tmV (.mk 4 (s.extract i (i + 1)) E0 0 Z0 Z0 (x :: ts)) tp' tc' rp' rc' p' c') ?_ rfl ?_
          · rw [results_cell1 rfl]
            go_simp
            all_goals (repeat' apply And.intro) <;> rfl
          · obtain ⟨x1, x2, x3⟩ := HX.out
            exact rest_fin x1 hR (by have := HSZ.out; omega) x2 x3.tm (by rw [HY.out]; exact rest_op HP32.out HCH.out HOPB.out HARG.out)
        · have hopb : (opAr [ch] != 2) = true := by simp [hop]
          have HOPB := Lib.hid hop
          clear hop hi1 hiw
          have hx3 : LR wm (fun z => wb.heap.size ≤ z ∧ z ≠ w.heap.size + 1) R s (w.heap.size + 1) (w.heap.size + 1 + 1 + 1) none ((w2.drewN nq).setCell ⟨R, 2, none⟩ (.bool true)) (.mk 7 E0 E0 0 Z0 Z0 [x]) (some ⟨w.heap.size + 1 + 1, 0, none⟩) 1 (tmL x tp tc rp rc p c) :=
            HX2.out.step ⟨i, hi2, ((HRD2.out.drew nq).set true).1⟩ (grownBy_trans (grownBy_drewN (grown_refl _ _) nq) ((HRD2.out.drew nq).set true).2)
          have HX3 := Lib.hid hx3
          have k0 := cell_of_blk hx3.box 0
          have k1 := cell_of_blk hx3.box 1
          have k2 := cell_of_blk hx3.box 2
          have k3 := cell_of_blk hx3.box 3
          have k4 := cell_of_blk hx3.box 4
          have k5 := cell_of_blk hx3.box 5
          have k6 := cell_of_blk hx3.box 6
          have k7 := cell_of_blk hx3.box 7
          have k8 := cell_of_blk hx3.box 8
          have kz := unfrozen_of_blk hx3.box
          simp only [tmC, List.getElem?_toArray, List.getElem?_cons_zero, List.getElem?_cons_succ, Tm.kind, Tm.name, Tm.other, Tm.n, Tm.ty, Tm.res, Tm.args, Ty.kind, Ty.args, List.length_cons, List.length_nil] at k0 k1 k2 k3 k4 k5 k6 k7 k8
          have q0 := cell_of_blk hx3.out 0
          have q1 := cell_of_blk hx3.out 1
          have q2 := cell_of_blk hx3.out 2
          have q3 := cell_of_blk hx3.out 3
          have q4 := cell_of_blk hx3.out 4
          have q5 := cell_of_blk hx3.out 5
          have q6 := cell_of_blk hx3.out 6
          have q7 := cell_of_blk hx3.out 7
          have q8 := cell_of_blk hx3.out 8
          have qz := unfrozen_of_blk hx3.out
          simp only [List.getElem?_toArray, List.getElem?_cons_zero, List.getElem?_cons_succ] at q0 q1 q2 q3 q4 q5 q6 q7 q8
          clear hx3 d0 d1
          go_wp2_with fail
          refine bodyPost_ret (v := tmV (.mk 7 E0 E0 0 Z0 Z0 [x]) none 0 none 0 (some ⟨w.heap.size + 1 + 1, 0, none⟩) 1) ?_ rfl ?_
          · rw [results_cell1 rfl]
            go_simp
            all_goals (repeat' apply And.intro) <;> rfl
          · exact rest_fin (grownBy_trans HGM.out HX3.out.grown) hR (by have := HSZ.out; omega) HX3.out.rd (HX3.out.new.tm.mono (fun z hz _ => hz.1)) (rest_bad (fun j e => by cases e; exact ⟨HP32.out, fun c hc => by rw [HCH.out] at hc; cases hc; exact HOPB.out⟩))
      · have hge : decide (s.size ≤ i) = true := decide_eq_true (by omega)
        have HEND := Lib.hid hend
        go_wp2_with fail
        have hx2 : LR wm (fun z => wb.heap.size ≤ z ∧ z ≠ w.heap.size + 1) R s (w.heap.size + 1) (w.heap.size + 1 + 1 + 1) none (w1.setCell ⟨R, 2, none⟩ (.bool true)).drew (.mk 7 E0 E0 0 Z0 Z0 [x]) (some ⟨w.heap.size + 1 + 1, 0, none⟩) 1 (tmL x tp tc rp rc p c) :=
          HL1'.out.step ⟨i, hi, (HRD.out.set true).1⟩ (grownBy_trans (HRD.out.set true).2 (gb_drew (grown_refl _ _)))
        have HX2 := Lib.hid hx2
        clear hx2
        go_region
        have hx2 := HX2.out
        clear HX2
        generalize (w1.setCell ⟨R, 2, none⟩ (.bool true)).drew = w2 at hx2 ⊢
        obtain ⟨i2, hi2, hrd2⟩ := hx2.rd
        have HX2 := Lib.hid hx2
        have HRD2 := Lib.hid hrd2
        clear d0 d1 d2 dz1 dz2 hx2
        obtain ⟨d0, d1, d2, dz1, dz2⟩ := hrd2.cells
        clear hrd2
        clear hge
        go_wp2_with fail
        go_quiet (fail)
        have hx3 : LR wm (fun z => wb.heap.size ≤ z ∧ z ≠ w.heap.size + 1) R s (w.heap.size + 1) (w.heap.size + 1 + 1 + 1) none ((w2.drewN nq).setCell ⟨R, 2, none⟩ (.bool true)) (.mk 7 E0 E0 0 Z0 Z0 [x]) (some ⟨w.heap.size + 1 + 1, 0, none⟩) 1 (tmL x tp tc rp rc p c) :=
          HX2.out.step ⟨i2, hi2, ((HRD2.out.drew nq).set true).1⟩ (grownBy_trans (grownBy_drewN (grown_refl _ _) nq) ((HRD2.out.drew nq).set true).2)
        have HX3 := Lib.hid hx3
        have k0 := cell_of_blk hx3.box 0
        have k1 := cell_of_blk hx3.box 1
        have k2 := cell_of_blk hx3.box 2
        have k3 := cell_of_blk hx3.box 3
        have k4 := cell_of_blk hx3.box 4
        have k5 := cell_of_blk hx3.box 5
        have k6 := cell_of_blk hx3.box 6
        have k7 := cell_of_blk hx3.box 7
        have k8 := cell_of_blk hx3.box 8
        have kz := unfrozen_of_blk hx3.box
        simp only [tmC, List.getElem?_toArray, List.getElem?_cons_zero, List.getElem?_cons_succ, Tm.kind, Tm.name, Tm.other, Tm.n, Tm.ty, Tm.res, Tm.args, Ty.kind, Ty.args, List.length_cons, List.length_nil] at k0 k1 k2 k3 k4 k5 k6 k7 k8
        have q0 := cell_of_blk hx3.out 0
        have q1 := cell_of_blk hx3.out 1
        have q2 := cell_of_blk hx3.out 2
        have q3 := cell_of_blk hx3.out 3
        have q4 := cell_of_blk hx3.out 4
        have q5 := cell_of_blk hx3.out 5
        have q6 := cell_of_blk hx3.out 6
        have q7 := cell_of_blk hx3.out 7
        have q8 := cell_of_blk hx3.out 8
        have qz := unfrozen_of_blk hx3.out
        simp only [List.getElem?_toArray, List.getElem?_cons_zero, List.getElem?_cons_succ] at q0 q1 q2 q3 q4 q5 q6 q7 q8
        clear hx3 d0 d1
        go_wp2_with fail
        refine bodyPost_ret (v := tmV (.mk 7 E0 E0 0 Z0 Z0 [x]) none 0 none 0 (some ⟨w.heap.size + 1 + 1, 0, none⟩) 1) ?_ rfl ?_
        · rw [results_cell1 rfl]
          go_simp
          all_goals (repeat' apply And.intro) <;> rfl
        · exact rest_fin (grownBy_trans HGM.out HX3.out.grown) hR (by have := HSZ.out; omega) HX3.out.rd (HX3.out.new.tm.mono (fun z hz _ => hz.1)) (rest_bad (fun j e => by cases e; exact ⟨HP32.out, fun c hc => by rw [at_none HEND.out] at hc; cases hc⟩))
  · obtain ⟨j, rfl, hsj, htk⟩ := takes_yes HBB.out
    have hL1 := HL1.out
    rw [htk] at hL1
    have HLN := Lib.hid hL1
    have HSJ := Lib.hid hsj
    have k0 := cell_of_blk hL1.box 0
    have k1 := cell_of_blk hL1.box 1
    have k2 := cell_of_blk hL1.box 2
    have k3 := cell_of_blk hL1.box 3
    have k4 := cell_of_blk hL1.box 4
    have k5 := cell_of_blk hL1.box 5
    have k6 := cell_of_blk hL1.box 6
    have k7 := cell_of_blk hL1.box 7
    have k8 := cell_of_blk hL1.box 8
    have kz := unfrozen_of_blk hL1.box
    simp only [tmC, List.getElem?_toArray, List.getElem?_cons_zero, List.getElem?_cons_succ, Tm.kind, Tm.name, Tm.other, Tm.n, Tm.ty, Tm.res, Tm.args, Ty.kind, Ty.args, List.length_cons, List.length_nil] at k0 k1 k2 k3 k4 k5 k6 k7 k8
    have HAR := Lib.hid (l6Args_any HT.out hs 1 (by decide) 7 E0 E0 0 Z0 Z0 [x] (by simp) none 0 none 0 (some ⟨w.heap.size + 1 + 1, 0, none⟩) 1 (tmL x tp tc rp rc p c) wm w1 _ HLN.out.rd HLN.out.grown (fun z => wb.heap.size ≤ z ∧ z ≠ w.heap.size + 1) HLN.out.hR HLN.out.hCR (fun z hz => by have := HSZ.out; omega) (HLN.out.new.base (Nat.le_refl _) (fun z hz _ => hz.1)))
    clear hL1 hsj htk HL1
    go_wp2_with fail
    refine HAR.out.mono ?_
    rintro e we ⟨m, ts, o1, tp', tc', rp', rc', p', c', xs', hm, hend, har, rfl, hN, hre, hge⟩
    have hout := (hge.block _ HLN.out.hrb (fun e => HLN.out.ne (Option.some.inj e))).trans HM1.out
    have q0 := cell_of_blk hout 0
    have q1 := cell_of_blk hout 1
    have q2 := cell_of_blk hout 2
    have q3 := cell_of_blk hout 3
    have q4 := cell_of_blk hout 4
    have q5 := cell_of_blk hout 5
    have q6 := cell_of_blk hout 6
    have q7 := cell_of_blk hout 7
    have q8 := cell_of_blk hout 8
    have qz := unfrozen_of_blk hout
    simp only [List.getElem?_toArray, List.getElem?_cons_zero, List.getElem?_cons_succ] at q0 q1 q2 q3 q4 q5 q6 q7 q8
    have HARG := Lib.hid (args_pts (s := s.data.toList) (N := 1) (by decide) hm hend har)
    have HX := Lib.hid (And.intro (grownBy_trans HGM.out hge) (And.intro hre hN))
    clear hge hre hN hout har hend hm
    go_wp2_with fail
    refine bodyPost_ret (v := tmV (.mk 7 E0 E0 0 Z0 Z0 (x :: ts)) tp' tc' rp' rc' p' c') ?_ rfl ?_
    · rw [results_cell1 rfl]
      go_simp
      all_goals (repeat' apply And.intro) <;> rfl
    · obtain ⟨x1, x2, x3⟩ := HX.out
      exact rest_fin x1 hR (by have := HSZ.out; omega) x2 x3.tm (rest_app HSJ.out HARG.out)
end Go.Proofs.YtfeijijeohfpgaaGreatDoor
namespace Go.Proofs.YtfeijijeohfpgaaGreatDoor
open Go Go.RowKit

theorem takes_yesq {q s : List UInt8} {o : Option Nat} (h : takes q s o = true) : ∃ j, o = some j ∧ pre q s j = true ∧ takeO q s o = some (j + q.length) := by
  cases o with
  | none => cases h
  | some j =>
    have h2 : pre q s j = true := h
    exact ⟨j, rfl, h2, by simp [takeO, h2]⟩
theorem termO_at {f g : Nat → Option (Tm × Nat)} {i j : Nat} {t : Tm} {o' : Option Nat} (h : f j = g i) (ht : termO g (some i) t o') : termO f (some j) t o' := by
  rcases ht with ⟨k, hk, rfl⟩ | ⟨hk, rfl⟩
  · exact Or.inl ⟨k, h.trans hk, rfl⟩
  · exact Or.inr ⟨h.trans hk, rfl⟩
theorem termO_args {f : Nat → Option (Tm × Nat)} {s es : List UInt8} {i : Nat} {ts : List Tm} {o' : Option Nat} (g : List Tm → Tm) (h : argsP f s es (some i) ts o') : termO (fun i => (pts f s es i).map fun r => (g r.1, r.2)) (some i) (g ts) o' := by
  rcases h with ⟨k, hk, rfl⟩ | ⟨hk, rfl⟩
  · exact Or.inl ⟨k, by simp only [hk, Option.map_some], rfl⟩
  · exact Or.inr ⟨by simp only [hk, Option.map_none], rfl⟩
theorem lam_steps {f : Nat → Option (Tm × Nat)} {s : List UInt8} {i : Nat} {a : List UInt8} {ty : Ty} {ts : List Tm} {o5 o9 : Option Nat}
    (ha : a = word s i) (h5 : typO s (mustO [58] s (wordO s (some i))) ty o5) (h9 : argsP f s [41] (mustO [46] s o5) ts o9) :
    termO (pLam s f) (some i) (.mk 6 ⟨a.toArray⟩ E0 0 ty Z0 ts) o9 := by
  subst ha
  simp only [wordO] at h5
  by_cases c2 : s[i + (word s i).length]? = some 58
  · rw [must_yes1 c2] at h5
    rcases h5 with ⟨j, hp, rfl⟩ | ⟨hp, rfl⟩
    · by_cases c4 : s[j]? = some 46
      · rw [must_yes1 c4] at h9
        rcases h9 with ⟨j3, hp3, rfl⟩ | ⟨hp3, rfl⟩
        · exact Or.inl ⟨j3, by simp [pLam, c2, hp, c4, hp3], rfl⟩
        · exact Or.inr ⟨by simp [pLam, c2, hp, c4, hp3], rfl⟩
      · rw [must_no1 c4] at h9
        exact Or.inr ⟨by simp [pLam, c2, hp, c4], h9⟩
    · have e9 : o9 = none := h9
      exact Or.inr ⟨by simp [pLam, c2, hp], e9⟩
  · rw [must_no1 c2] at h5
    have e5 : o5 = none := h5
    subst e5
    have e9 : o9 = none := h9
    exact Or.inr ⟨by simp [pLam, c2], e9⟩
theorem let_steps {f : Nat → Option (Tm × Nat)} {s : List UInt8} {i : Nat} {a : List UInt8} {ts : List Tm} {o9 : Option Nat}
    (ha : a = word s i) (h9 : argsP f s [32, 41] (mustO [61] s (wordO s (some i))) ts o9) :
    termO (pLet s f) (some i) (.mk 8 ⟨a.toArray⟩ E0 0 Z0 Z0 ts) o9 := by
  subst ha
  simp only [wordO] at h9
  by_cases c2 : s[i + (word s i).length]? = some 61
  · rw [must_yes1 c2] at h9
    rcases h9 with ⟨j3, hp3, rfl⟩ | ⟨hp3, rfl⟩
    · exact Or.inl ⟨j3, by simp only [pLet, c2, if_true, hp3, Option.map_some]; rfl, rfl⟩
    · exact Or.inr ⟨by simp only [pLet, c2, if_true, hp3, Option.map_none], rfl⟩
  · rw [must_no1 c2] at h9
    have e9 : o9 = none := h9
    exact Or.inr ⟨by simp only [pLet, if_neg c2], e9⟩
theorem open_rest {f : Nat → Option (Tm × Nat)} {s : List UInt8} {o o1 o2 : Option Nat} {t u : Tm} (h1 : ∀ j, o = some j → pre [92] s j = false) (h2 : ∀ j, o = some j → pre kLet s j = false) (h3 : ∀ j, o = some j → pre kRec s j = false) (h4 : ∀ j, o = some j → pre kIf s j = false)
    (h5 : ∀ j, o = some j → pre kRun s j = false) (h6 : ∀ j, o = some j → pre kLift s j = false) (h7 : ∀ j, o = some j → pre [33] s j = false) (ht : termO f o t o1) (hr : termO (fun j => pRest s f t j) o1 u o2) : termO (pOpen s f) o u o2 := by
  cases o with
  | none =>
    have e1 : o1 = none := ht
    subst e1
    exact hr
  | some j =>
    have hn : f j = none → pOpen s f j = none := fun e => by
      unfold pOpen
      simp only [h1 j rfl, h2 j rfl, h3 j rfl, h4 j rfl, h5 j rfl, h6 j rfl, h7 j rfl, if_false, Bool.false_eq_true, e]
    have hy : ∀ x k, f j = some (x, k) → pOpen s f j = pRest s f x k := fun x k e => by
      unfold pOpen
      simp only [h1 j rfl, h2 j rfl, h3 j rfl, h4 j rfl, h5 j rfl, h6 j rfl, h7 j rfl, if_false, Bool.false_eq_true, e]
    rcases ht with ⟨k, hk, rfl⟩ | ⟨hk, rfl⟩
    · exact termO_at (hy t k hk) hr
    · have e2 : o2 = none := hr
      exact Or.inr ⟨hn hk, e2⟩
section
variable {w0 W : World} {R rb bx : Nat} {s : ByteArray} {q : Option Nat} {t : Tm} {tp rp : Option Addr} {tc rc : Nat}
theorem LS.setAll (h : LS w0 R s rb bx q W t tp tc rp rc) (k : Int) (a : ByteArray) : LS w0 R s rb bx q (((((((((W.setCell ⟨bx, 0, none⟩ (.int .i64 k)).setCell ⟨bx, 1, none⟩ (.string a)).setCell ⟨bx, 2, none⟩ (.string ⟨#[]⟩)).setCell ⟨bx, 3, none⟩ (.int .i64 0)).setCell ⟨bx, 4, none⟩ (.int .i64 0)).setCell ⟨bx, 5, none⟩ (.slice none 0 0)).setCell ⟨bx, 6, none⟩ (.int .i64 0)).setCell ⟨bx, 7, none⟩ (.slice none 0 0)).setCell ⟨bx, 8, none⟩ (.slice none 0 0)) (.mk k a E0 0 Z0 Z0 []) none 0 none 0 :=
  h.set (set9_below W bx bx (.int .i64 k) (.string a) (.string ⟨#[]⟩) (.int .i64 0) (.int .i64 0) (.slice none 0 0) (.int .i64 0) (.slice none 0 0) (.slice none 0 0) (Nat.le_refl _)) (by
      have b0 := Go.Joins.block_setCell h.box (i := 0) (.int .i64 k)
      have b1 := Go.Joins.block_setCell b0 (i := 1) (.string a)
      have b2 := Go.Joins.block_setCell b1 (i := 2) (.string ⟨#[]⟩)
      have b3 := Go.Joins.block_setCell b2 (i := 3) (.int .i64 0)
      have b4 := Go.Joins.block_setCell b3 (i := 4) (.int .i64 0)
      have b5 := Go.Joins.block_setCell b4 (i := 5) (.slice none 0 0)
      have b6 := Go.Joins.block_setCell b5 (i := 6) (.int .i64 0)
      have b7 := Go.Joins.block_setCell b6 (i := 7) (.slice none 0 0)
      have b8 := Go.Joins.block_setCell b7 (i := 8) (.slice none 0 0)
      rw [b8]
      simp [tmC, Tm.kind, Tm.name, Tm.other, Tm.n, Tm.ty, Tm.res, Tm.args, Ty.kind, Ty.args, Z0, E0])
    (set9_stays W bx (.int .i64 k) (.string a) (.string ⟨#[]⟩) (.int .i64 0) (.int .i64 0) (.slice none 0 0) (.int .i64 0) (.slice none 0 0) (.slice none 0 0) (fun z => w0.heap.size ≤ z ∧ z ≠ bx) (fun e => e.2 rfl)) (.nil _ _) (.nil _ _)
end
set_option maxRecDepth 100000 in
set_option maxHeartbeats 16000000 in
theorem l6Open_any {f : Nat → Option (Tm × Nat)} {R : Nat} {s : ByteArray} {D : Int} (hT : TermIs f R s D) (hs : s.size ≤ 1073741824) (o : Option Nat) (w : World) (hr : RdO w R s o) :
    Calls Tryz.prog 209 #[.pointer (some ⟨R, 0, none⟩), .int .i64 D] w (TermRet (pOpen s.data.toList f) R s o w) := by
  have hlt := hr.lt
  obtain ⟨w0, hw0, hs0, hb0, r0⟩ := box_new w zeroC 29
  obtain ⟨wz, hwz, hsz, hbz, r1⟩ := box_new w0 zeroC 29
  rw [hs0] at r1
  have hL0 : LS w0 R s w.heap.size (w.heap.size + 1) o wz zeroM none 0 none 0 :=
    ⟨(hr.below hb0).below hbz, gb_below hbz (some R), (hbz.block _ (by omega)).trans r0, r1, .nil _ _, .nil _ _, by omega, by omega, by omega, by omega⟩
  have HL0 := Lib.hid hL0
  have H0 := Lib.hid (And.intro hs0 (And.intro hb0 (And.intro r0 hlt)))
  have HT := Lib.hid hT
  have HW := Lib.hid (show (w.alloc (.cells #[.int .i64 0, .string ⟨#[]⟩, .string ⟨#[]⟩, .int .i64 0, .int .i64 0, .slice none 0 0, .int .i64 0, .slice none 0 0, .slice none 0 0] 29)).alloc (.cells #[.int .i64 0, .string ⟨#[]⟩, .string ⟨#[]⟩, .int .i64 0, .int .i64 0, .slice none 0 0, .int .i64 0, .slice none 0 0, .slice none 0 0] 29) = wz by rw [← hwz, ← hw0])
  have HQ1 := Lib.hid (takeO_any [92] (by decide) hs hL0.rd)
  clear hr hlt hw0 hs0 hb0 r0 hwz hsz hbz r1 hL0 hT
  go_enter Tryz.func209, Tryz.ntmps209
  go_wp2_with fail
  rw [HW.out]
  refine HQ1.out.mono ?_
  rintro e w1 ⟨rfl, hr1, hg1⟩
  have HL1 := Lib.hid (HL0.out.step hr1 hg1)
  clear hr1 hg1
  obtain ⟨bb, hbb⟩ : ∃ b, takes [92] s.data.toList o = b := ⟨_, rfl⟩
  rw [hbb]
  have HBB := Lib.hid hbb
  clear hbb
  cases bb
  rotate_left
  · obtain ⟨j, rfl, hyes, htk⟩ := takes_yesq HBB.out
    have hLY := HL1.out
    rw [show takeO [92] s.data.toList (some j) = some (j + 1) from htk] at hLY
    have HLY := Lib.hid hLY
    have HYES := Lib.hid hyes
    clear hLY hyes htk HL1
    have HWD := Lib.hid (wordO_any hs HLY.out.rd)
    go_wp2_with fail
    refine HWD.out.mono ?_
    rintro e wa ⟨a, rfl, hal, ha, hra, hga⟩
    have hLa := HLY.out.step hra hga
    have k0 := cell_of_blk hLa.box 0
    have k1 := cell_of_blk hLa.box 1
    have k2 := cell_of_blk hLa.box 2
    have k3 := cell_of_blk hLa.box 3
    have k4 := cell_of_blk hLa.box 4
    have k5 := cell_of_blk hLa.box 5
    have k6 := cell_of_blk hLa.box 6
    have k7 := cell_of_blk hLa.box 7
    have k8 := cell_of_blk hLa.box 8
    have kz := unfrozen_of_blk hLa.box
    simp only [tmC, List.getElem?_toArray, List.getElem?_cons_zero, List.getElem?_cons_succ, Tm.kind, Tm.name, Tm.other, Tm.n, Tm.ty, Tm.res, Tm.args] at k0 k1 k2 k3 k4 k5 k6 k7 k8
    obtain ⟨wb, hwb⟩ : ∃ wb, (((((((((wa.setCell ⟨w.heap.size + 1, 0, none⟩ (.int .i64 6)).setCell ⟨w.heap.size + 1, 1, none⟩ (.string (bx a))).setCell ⟨w.heap.size + 1, 2, none⟩ (.string ⟨#[]⟩)).setCell ⟨w.heap.size + 1, 3, none⟩ (.int .i64 0)).setCell ⟨w.heap.size + 1, 4, none⟩ (.int .i64 0)).setCell ⟨w.heap.size + 1, 5, none⟩ (.slice none 0 0)).setCell ⟨w.heap.size + 1, 6, none⟩ (.int .i64 0)).setCell ⟨w.heap.size + 1, 7, none⟩ (.slice none 0 0)).setCell ⟨w.heap.size + 1, 8, none⟩ (.slice none 0 0)) = wb := ⟨_, rfl⟩
    have hLb := hLa.setAll 6 (bx a)
    rw [hwb] at hLb
    have HWB := Lib.hid hwb
    have HLb := Lib.hid hLb
    have HA := Lib.hid (ha _ rfl)
    have HQb := Lib.hid (mustO_any [58] (by decide) hs hLb.rd)
    clear hLa hLb hra hga ha hwb
    go_wp2_with fail
    rw [HWB.out]
    refine HQb.out.mono ?_
    rintro e wc ⟨rfl, hrc, hgc⟩
    clear k0 k1 k2 k3 k4 k5 k6 k7 k8 kz
    have HLc := Lib.hid (HLb.out.step hrc hgc)
    have HTc := Lib.hid (typO_any hs hrc)
    clear hrc hgc
    go_wp2_with fail
    refine HTc.out.mono ?_
    rintro e wd ⟨vd, ty, od, rfl, ⟨svd, rfl, hTd⟩, hod, hrd, hgd⟩
    obtain ⟨tp, tc, rfl⟩ := hTd.form
    have hLd := HLc.out.step hrd hgd
    have l0 := cell_of_blk hLd.box 0
    have l1 := cell_of_blk hLd.box 1
    have l2 := cell_of_blk hLd.box 2
    have l3 := cell_of_blk hLd.box 3
    have l4 := cell_of_blk hLd.box 4
    have l5 := cell_of_blk hLd.box 5
    have l6 := cell_of_blk hLd.box 6
    have l7 := cell_of_blk hLd.box 7
    have l8 := cell_of_blk hLd.box 8
    have lz := unfrozen_of_blk hLd.box
    simp only [tmC, List.getElem?_toArray, List.getElem?_cons_zero, List.getElem?_cons_succ, Tm.kind, Tm.name, Tm.other, Tm.n, Tm.ty, Tm.res, Tm.args] at l0 l1 l2 l3 l4 l5 l6 l7 l8
    obtain ⟨wf, hwf⟩ : ∃ wf, (wd.setCell ⟨w.heap.size + 1, 4, none⟩ (.int .i64 ty.kind)).setCell ⟨w.heap.size + 1, 5, none⟩ (.slice tp ty.args.length tc) = wf := ⟨_, rfl⟩
    have hLf := hLd.setTy (hTd.mono (C' := fun z => w0.heap.size ≤ z ∧ z ≠ w.heap.size + 1) (fun z hz _ => by have := HLc.out.bxlt; have := H0.out.1; have : wc.heap.size ≤ z := hz; omega))
    rw [hwf] at hLf
    have HOD := Lib.hid hod
    have HLf := Lib.hid hLf
    have HQf := Lib.hid (mustO_any [46] (by decide) hs hLf.rd)
    clear hod hrd hgd hLd hLf hTd
    go_wp2_with fail
    refine HQf.out.mono ?_
    rintro e wg ⟨rfl, hrg, hgg⟩
    clear hwf l0 l1 l2 l3 l4 l5 l6 l7 l8 lz
    have hLA := HLf.out.step hrg hgg
    have HAR := Lib.hid (l6Args_any HT.out hs 1 (by decide) 6 (bx a) E0 0 ty Z0 [] (by simp) tp tc none 0 none 0 [] w0 wg _ hLA.rd hLA.grown (fun z => w0.heap.size ≤ z) hLA.hR (fun z hz e => by have := hLA.hR; have : w0.heap.size ≤ z := hz; omega) (fun _ hz => hz) hLA.new)
    have m0 := cell_of_blk hLA.box 0
    have m1 := cell_of_blk hLA.box 1
    have m2 := cell_of_blk hLA.box 2
    have m3 := cell_of_blk hLA.box 3
    have m4 := cell_of_blk hLA.box 4
    have m5 := cell_of_blk hLA.box 5
    have m6 := cell_of_blk hLA.box 6
    have m7 := cell_of_blk hLA.box 7
    have m8 := cell_of_blk hLA.box 8
    have mz := unfrozen_of_blk hLA.box
    simp only [tmC, List.getElem?_toArray, List.getElem?_cons_zero, List.getElem?_cons_succ, Tm.kind, Tm.name, Tm.other, Tm.n, Tm.ty, Tm.res, Tm.args] at m0 m1 m2 m3 m4 m5 m6 m7 m8
    clear hLA hrg hgg
    go_wp2_with fail
    refine HAR.out.mono ?_
    rintro e we ⟨m, ts, o1, tp', tc', rp', rc', p', c', xs', hm, hend, har, rfl, hN, hre, hge⟩
    have hg := grownBy_trans (gb_below H0.out.2.1 (some R)) hge
    have hout := (hge.block w.heap.size (by have := H0.out.1; omega) (fun e => by have := Option.some.inj e; have := H0.out.2.2.2; omega)).trans H0.out.2.2.1
    have q0 := cell_of_blk hout 0
    have q1 := cell_of_blk hout 1
    have q2 := cell_of_blk hout 2
    have q3 := cell_of_blk hout 3
    have q4 := cell_of_blk hout 4
    have q5 := cell_of_blk hout 5
    have q6 := cell_of_blk hout 6
    have q7 := cell_of_blk hout 7
    have q8 := cell_of_blk hout 8
    have qz := unfrozen_of_blk hout
    simp only [List.getElem?_toArray, List.getElem?_cons_zero, List.getElem?_cons_succ] at q0 q1 q2 q3 q4 q5 q6 q7 q8
    have HX := Lib.hid (And.intro hg (And.intro hre hN))
    have HARG := Lib.hid (args_pts (s := s.data.toList) (N := 1) (by decide) hm hend har)
    clear hg hre hN hge hout har hend hm
    go_wp2_with fail
    refine bodyPost_ret (v := tmV (.mk 6 (bx a) E0 0 ty Z0 ts) tp' tc' rp' rc' p' c') ?_ rfl ?_
    · rw [results_cell1 rfl]
      go_simp
      all_goals (repeat' apply And.intro) <;> rfl
    · obtain ⟨x1, x2, x3⟩ := HX.out
      exact tm_fin x1 H0.out.2.2.2 x2 (x3.tm.mono (fun z hz _ => by have := H0.out.1; have : w0.heap.size ≤ z := hz; omega)) (termO_at (g := pLam s.data.toList f) (i := j + 1) (by unfold pOpen; rw [if_pos HYES.out]) (lam_steps HA.out HOD.out HARG.out))
  have hL1b := HL1.out
  rw [(takes_no HBB.out).1] at hL1b
  have HL1b := Lib.hid hL1b
  have HN1 := Lib.hid (takes_no HBB.out).2
  clear hL1b HL1 HBB
  have HQ2 := Lib.hid (takeO_any kLet (by decide) hs HL1b.out.rd)
  go_wp2_with fail
  refine HQ2.out.mono ?_
  rintro e w2 ⟨rfl, hr2, hg2⟩
  have HL2 := Lib.hid (HL1b.out.step hr2 hg2)
  clear hr2 hg2
  obtain ⟨bb, hbb⟩ : ∃ b, takes kLet s.data.toList o = b := ⟨_, rfl⟩
  rw [hbb]
  have HBB := Lib.hid hbb
  clear hbb
  cases bb
  rotate_left
  · obtain ⟨j, rfl, hyes, htk⟩ := takes_yesq HBB.out
    have hLY := HL2.out
    rw [show takeO kLet s.data.toList (some j) = some (j + 4) from htk] at hLY
    have HLY := Lib.hid hLY
    have HYES := Lib.hid hyes
    clear hLY hyes htk HL2
    have HWD := Lib.hid (wordO_any hs HLY.out.rd)
    go_wp2_with fail
    refine HWD.out.mono ?_
    rintro e wa ⟨a, rfl, hal, ha, hra, hga⟩
    have hLa := HLY.out.step hra hga
    have k0 := cell_of_blk hLa.box 0
    have k1 := cell_of_blk hLa.box 1
    have k2 := cell_of_blk hLa.box 2
    have k3 := cell_of_blk hLa.box 3
    have k4 := cell_of_blk hLa.box 4
    have k5 := cell_of_blk hLa.box 5
    have k6 := cell_of_blk hLa.box 6
    have k7 := cell_of_blk hLa.box 7
    have k8 := cell_of_blk hLa.box 8
    have kz := unfrozen_of_blk hLa.box
    simp only [tmC, List.getElem?_toArray, List.getElem?_cons_zero, List.getElem?_cons_succ, Tm.kind, Tm.name, Tm.other, Tm.n, Tm.ty, Tm.res, Tm.args] at k0 k1 k2 k3 k4 k5 k6 k7 k8
    obtain ⟨wb, hwb⟩ : ∃ wb, (((((((((wa.setCell ⟨w.heap.size + 1, 0, none⟩ (.int .i64 8)).setCell ⟨w.heap.size + 1, 1, none⟩ (.string (bx a))).setCell ⟨w.heap.size + 1, 2, none⟩ (.string ⟨#[]⟩)).setCell ⟨w.heap.size + 1, 3, none⟩ (.int .i64 0)).setCell ⟨w.heap.size + 1, 4, none⟩ (.int .i64 0)).setCell ⟨w.heap.size + 1, 5, none⟩ (.slice none 0 0)).setCell ⟨w.heap.size + 1, 6, none⟩ (.int .i64 0)).setCell ⟨w.heap.size + 1, 7, none⟩ (.slice none 0 0)).setCell ⟨w.heap.size + 1, 8, none⟩ (.slice none 0 0)) = wb := ⟨_, rfl⟩
    have hLb := hLa.setAll 8 (bx a)
    rw [hwb] at hLb
    have HWB := Lib.hid hwb
    have HLb := Lib.hid hLb
    have HA := Lib.hid (ha _ rfl)
    have HQb := Lib.hid (mustO_any [61] (by decide) hs hLb.rd)
    clear hLa hLb hra hga ha hwb
    go_wp2_with fail
    rw [HWB.out]
    refine HQb.out.mono ?_
    rintro e wg ⟨rfl, hrg, hgg⟩
    clear k0 k1 k2 k3 k4 k5 k6 k7 k8 kz
    have hLA := HLb.out.step hrg hgg
    have HAR := Lib.hid (l6Args_any HT.out hs 2 (by decide) 8 (bx a) E0 0 Z0 Z0 [] (by simp) none 0 none 0 none 0 [] w0 wg _ hLA.rd hLA.grown (fun z => w0.heap.size ≤ z) hLA.hR (fun z hz e => by have := hLA.hR; have : w0.heap.size ≤ z := hz; omega) (fun _ hz => hz) hLA.new)
    have m0 := cell_of_blk hLA.box 0
    have m1 := cell_of_blk hLA.box 1
    have m2 := cell_of_blk hLA.box 2
    have m3 := cell_of_blk hLA.box 3
    have m4 := cell_of_blk hLA.box 4
    have m5 := cell_of_blk hLA.box 5
    have m6 := cell_of_blk hLA.box 6
    have m7 := cell_of_blk hLA.box 7
    have m8 := cell_of_blk hLA.box 8
    have mz := unfrozen_of_blk hLA.box
    simp only [tmC, List.getElem?_toArray, List.getElem?_cons_zero, List.getElem?_cons_succ, Tm.kind, Tm.name, Tm.other, Tm.n, Tm.ty, Tm.res, Tm.args] at m0 m1 m2 m3 m4 m5 m6 m7 m8
    clear hLA hrg hgg
    go_wp2_with fail
    refine HAR.out.mono ?_
    rintro e we ⟨m, ts, o1, tp', tc', rp', rc', p', c', xs', hm, hend, har, rfl, hN, hre, hge⟩
    have hg := grownBy_trans (gb_below H0.out.2.1 (some R)) hge
    have hout := (hge.block w.heap.size (by have := H0.out.1; omega) (fun e => by have := Option.some.inj e; have := H0.out.2.2.2; omega)).trans H0.out.2.2.1
    have q0 := cell_of_blk hout 0
    have q1 := cell_of_blk hout 1
    have q2 := cell_of_blk hout 2
    have q3 := cell_of_blk hout 3
    have q4 := cell_of_blk hout 4
    have q5 := cell_of_blk hout 5
    have q6 := cell_of_blk hout 6
    have q7 := cell_of_blk hout 7
    have q8 := cell_of_blk hout 8
    have qz := unfrozen_of_blk hout
    simp only [List.getElem?_toArray, List.getElem?_cons_zero, List.getElem?_cons_succ] at q0 q1 q2 q3 q4 q5 q6 q7 q8
    have HX := Lib.hid (And.intro hg (And.intro hre hN))
    have HARG := Lib.hid (args_pts (s := s.data.toList) (N := 2) (by decide) hm hend har)
    clear hg hre hN hge hout har hend hm
    go_wp2_with fail
    refine bodyPost_ret (v := tmV (.mk 8 (bx a) E0 0 Z0 Z0 ts) tp' tc' rp' rc' p' c') ?_ rfl ?_
    · rw [results_cell1 rfl]
      go_simp
      all_goals (repeat' apply And.intro) <;> rfl
    · obtain ⟨x1, x2, x3⟩ := HX.out
      exact tm_fin x1 H0.out.2.2.2 x2 (x3.tm.mono (fun z hz _ => by have := H0.out.1; have : w0.heap.size ≤ z := hz; omega)) (termO_at (g := pLet s.data.toList f) (i := j + 4) (by unfold pOpen; rw [if_neg (by rw [HN1.out _ rfl]; decide), if_pos HYES.out]) (let_steps HA.out HARG.out))
  have hL2b := HL2.out
  rw [(takes_no HBB.out).1] at hL2b
  have HL2b := Lib.hid hL2b
  have HN2 := Lib.hid (takes_no HBB.out).2
  clear hL2b HL2 HBB
  have HQ3 := Lib.hid (takeO_any kRec (by decide) hs HL2b.out.rd)
  go_wp2_with fail
  refine HQ3.out.mono ?_
  rintro e w3 ⟨rfl, hr3, hg3⟩
  have HL3 := Lib.hid (HL2b.out.step hr3 hg3)
  clear hr3 hg3
  obtain ⟨bb, hbb⟩ : ∃ b, takes kRec s.data.toList o = b := ⟨_, rfl⟩
  rw [hbb]
  have HBB := Lib.hid hbb
  clear hbb
  cases bb
  rotate_left
  · obtain ⟨j, rfl, hyes, htk⟩ := takes_yesq HBB.out
    have hLY := HL3.out
    rw [show takeO kRec s.data.toList (some j) = some (j + 4) from htk] at hLY
    have HLY := Lib.hid hLY
    have HYES := Lib.hid hyes
    clear hLY hyes htk HL3
    have HAR := Lib.hid (l6Rec_any HT.out hs _ w3 HLY.out.rd)
    go_wp2_with fail
    refine HAR.out.mono ?_
    rintro e we ⟨ve, te, oe, rfl, ⟨tp', tc', rp', rc', p', c', rfl, hN⟩, hoe, hre, hge0⟩
    have hge := grownBy_trans HLY.out.grown hge0
    have hlo := HLY.out.grown.size
    have hg := grownBy_trans (gb_below H0.out.2.1 (some R)) hge
    have hout := (hge.block w.heap.size (by have := H0.out.1; omega) (fun e => by have := Option.some.inj e; have := H0.out.2.2.2; omega)).trans H0.out.2.2.1
    have q0 := cell_of_blk hout 0
    have q1 := cell_of_blk hout 1
    have q2 := cell_of_blk hout 2
    have q3 := cell_of_blk hout 3
    have q4 := cell_of_blk hout 4
    have q5 := cell_of_blk hout 5
    have q6 := cell_of_blk hout 6
    have q7 := cell_of_blk hout 7
    have q8 := cell_of_blk hout 8
    have qz := unfrozen_of_blk hout
    simp only [List.getElem?_toArray, List.getElem?_cons_zero, List.getElem?_cons_succ] at q0 q1 q2 q3 q4 q5 q6 q7 q8
    have HX := Lib.hid (And.intro hg (And.intro hre hN))
    have HOE := Lib.hid hoe
    have HLO := Lib.hid hlo
    clear hg hre hN hge hge0 hout hoe hlo
    go_wp2_with fail
    refine bodyPost_ret (v := tmV te tp' tc' rp' rc' p' c') ?_ rfl ?_
    · rw [results_cell1 rfl]
      go_simp
      all_goals (repeat' apply And.intro) <;> rfl
    · obtain ⟨x1, x2, x3⟩ := HX.out
      exact tm_fin x1 H0.out.2.2.2 x2 (x3.mono (fun z hz _ => by have := H0.out.1; have := HLO.out; have : w3.heap.size ≤ z := hz; omega)) (termO_at (g := pRec s.data.toList f) (i := j + 4) (by unfold pOpen; rw [if_neg (by rw [HN1.out _ rfl]; decide), if_neg (by rw [HN2.out _ rfl]; decide), if_pos HYES.out]) HOE.out)
  have hL3b := HL3.out
  rw [(takes_no HBB.out).1] at hL3b
  have HL3b := Lib.hid hL3b
  have HN3 := Lib.hid (takes_no HBB.out).2
  clear hL3b HL3 HBB
  have HQ4 := Lib.hid (takeO_any kIf (by decide) hs HL3b.out.rd)
  go_wp2_with fail
  refine HQ4.out.mono ?_
  rintro e w4 ⟨rfl, hr4, hg4⟩
  have HL4 := Lib.hid (HL3b.out.step hr4 hg4)
  clear hr4 hg4
  obtain ⟨bb, hbb⟩ : ∃ b, takes kIf s.data.toList o = b := ⟨_, rfl⟩
  rw [hbb]
  have HBB := Lib.hid hbb
  clear hbb
  cases bb
  rotate_left
  · obtain ⟨j, rfl, hyes, htk⟩ := takes_yesq HBB.out
    have hLY := HL4.out
    rw [show takeO kIf s.data.toList (some j) = some (j + 3) from htk] at hLY
    have HLY := Lib.hid hLY
    have HYES := Lib.hid hyes
    clear hLY hyes htk HL4
    have hLA := HLY.out
    have HAR := Lib.hid (l6Args_any HT.out hs 3 (by decide) 5 E0 E0 0 Z0 Z0 [] (by simp) none 0 none 0 none 0 [] w0 w4 _ hLA.rd hLA.grown (fun z => w0.heap.size ≤ z) hLA.hR (fun z hz e => by have := hLA.hR; have : w0.heap.size ≤ z := hz; omega) (fun _ hz => hz) ⟨.nil _ _, .nil _ _, RowM.start _ _ _⟩)
    clear hLA
    go_wp2_with fail
    refine HAR.out.mono ?_
    rintro e we ⟨m, ts, o1, tp', tc', rp', rc', p', c', xs', hm, hend, har, rfl, hN, hre, hge⟩
    have hg := grownBy_trans (gb_below H0.out.2.1 (some R)) hge
    have hout := (hge.block w.heap.size (by have := H0.out.1; omega) (fun e => by have := Option.some.inj e; have := H0.out.2.2.2; omega)).trans H0.out.2.2.1
    have q0 := cell_of_blk hout 0
    have q1 := cell_of_blk hout 1
    have q2 := cell_of_blk hout 2
    have q3 := cell_of_blk hout 3
    have q4 := cell_of_blk hout 4
    have q5 := cell_of_blk hout 5
    have q6 := cell_of_blk hout 6
    have q7 := cell_of_blk hout 7
    have q8 := cell_of_blk hout 8
    have qz := unfrozen_of_blk hout
    simp only [List.getElem?_toArray, List.getElem?_cons_zero, List.getElem?_cons_succ] at q0 q1 q2 q3 q4 q5 q6 q7 q8
    have HX := Lib.hid (And.intro hg (And.intro hre hN))
    have HARG := Lib.hid (args_pts (s := s.data.toList) (N := 3) (by decide) hm hend har)
    clear hg hre hN hge hout har hend hm
    go_wp2_with fail
    refine bodyPost_ret (v := tmV (.mk 5 E0 E0 0 Z0 Z0 ts) tp' tc' rp' rc' p' c') ?_ rfl ?_
    · rw [results_cell1 rfl]
      go_simp
      all_goals (repeat' apply And.intro) <;> rfl
    · obtain ⟨x1, x2, x3⟩ := HX.out
      exact tm_fin x1 H0.out.2.2.2 x2 (x3.tm.mono (fun z hz _ => by have := H0.out.1; have : w0.heap.size ≤ z := hz; omega)) (termO_at (g := fun i => (pts f s.data.toList (signs 3) i).map fun r => (mkT 5 [] 0 r.1, r.2)) (i := j + 3) (by unfold pOpen; rw [if_neg (by rw [HN1.out _ rfl]; decide), if_neg (by rw [HN2.out _ rfl]; decide), if_neg (by rw [HN3.out _ rfl]; decide), if_pos HYES.out]; rfl) (termO_args (fun ts => mkT 5 [] 0 ts) HARG.out))
  have hL4b := HL4.out
  rw [(takes_no HBB.out).1] at hL4b
  have HL4b := Lib.hid hL4b
  have HN4 := Lib.hid (takes_no HBB.out).2
  clear hL4b HL4 HBB
  have HQ5 := Lib.hid (takeO_any kRun (by decide) hs HL4b.out.rd)
  go_wp2_with fail
  refine HQ5.out.mono ?_
  rintro e w5 ⟨rfl, hr5, hg5⟩
  have HL5 := Lib.hid (HL4b.out.step hr5 hg5)
  clear hr5 hg5
  obtain ⟨bb, hbb⟩ : ∃ b, takes kRun s.data.toList o = b := ⟨_, rfl⟩
  rw [hbb]
  have HBB := Lib.hid hbb
  clear hbb
  cases bb
  rotate_left
  · obtain ⟨j, rfl, hyes, htk⟩ := takes_yesq HBB.out
    have hLY := HL5.out
    rw [show takeO kRun s.data.toList (some j) = some (j + 4) from htk] at hLY
    have HLY := Lib.hid hLY
    have HYES := Lib.hid hyes
    clear hLY hyes htk HL5
    have hLA := HLY.out
    have HAR := Lib.hid (l6Args_any HT.out hs 1 (by decide) 12 E0 E0 0 Z0 Z0 [] (by simp) none 0 none 0 none 0 [] w0 w5 _ hLA.rd hLA.grown (fun z => w0.heap.size ≤ z) hLA.hR (fun z hz e => by have := hLA.hR; have : w0.heap.size ≤ z := hz; omega) (fun _ hz => hz) ⟨.nil _ _, .nil _ _, RowM.start _ _ _⟩)
    clear hLA
    go_wp2_with fail
    refine HAR.out.mono ?_
    rintro e we ⟨m, ts, o1, tp', tc', rp', rc', p', c', xs', hm, hend, har, rfl, hN, hre, hge⟩
    have hg := grownBy_trans (gb_below H0.out.2.1 (some R)) hge
    have hout := (hge.block w.heap.size (by have := H0.out.1; omega) (fun e => by have := Option.some.inj e; have := H0.out.2.2.2; omega)).trans H0.out.2.2.1
    have q0 := cell_of_blk hout 0
    have q1 := cell_of_blk hout 1
    have q2 := cell_of_blk hout 2
    have q3 := cell_of_blk hout 3
    have q4 := cell_of_blk hout 4
    have q5 := cell_of_blk hout 5
    have q6 := cell_of_blk hout 6
    have q7 := cell_of_blk hout 7
    have q8 := cell_of_blk hout 8
    have qz := unfrozen_of_blk hout
    simp only [List.getElem?_toArray, List.getElem?_cons_zero, List.getElem?_cons_succ] at q0 q1 q2 q3 q4 q5 q6 q7 q8
    have HX := Lib.hid (And.intro hg (And.intro hre hN))
    have HARG := Lib.hid (args_pts (s := s.data.toList) (N := 1) (by decide) hm hend har)
    clear hg hre hN hge hout har hend hm
    go_wp2_with fail
    refine bodyPost_ret (v := tmV (.mk 12 E0 E0 0 Z0 Z0 ts) tp' tc' rp' rc' p' c') ?_ rfl ?_
    · rw [results_cell1 rfl]
      go_simp
      all_goals (repeat' apply And.intro) <;> rfl
    · obtain ⟨x1, x2, x3⟩ := HX.out
      exact tm_fin x1 H0.out.2.2.2 x2 (x3.tm.mono (fun z hz _ => by have := H0.out.1; have : w0.heap.size ≤ z := hz; omega)) (termO_at (g := fun i => (pts f s.data.toList (signs 1) i).map fun r => (mkT 12 [] 0 r.1, r.2)) (i := j + 4) (by unfold pOpen; rw [if_neg (by rw [HN1.out _ rfl]; decide), if_neg (by rw [HN2.out _ rfl]; decide), if_neg (by rw [HN3.out _ rfl]; decide), if_neg (by rw [HN4.out _ rfl]; decide), if_pos HYES.out]; rfl) (termO_args (fun ts => mkT 12 [] 0 ts) HARG.out))
  have hL5b := HL5.out
  rw [(takes_no HBB.out).1] at hL5b
  have HL5b := Lib.hid hL5b
  have HN5 := Lib.hid (takes_no HBB.out).2
  clear hL5b HL5 HBB
  have HQ6 := Lib.hid (takeO_any kLift (by decide) hs HL5b.out.rd)
  go_wp2_with fail
  refine HQ6.out.mono ?_
  rintro e w6 ⟨rfl, hr6, hg6⟩
  have HL6 := Lib.hid (HL5b.out.step hr6 hg6)
  clear hr6 hg6
  obtain ⟨bb, hbb⟩ : ∃ b, takes kLift s.data.toList o = b := ⟨_, rfl⟩
  rw [hbb]
  have HBB := Lib.hid hbb
  clear hbb
  cases bb
  rotate_left
  · obtain ⟨j, rfl, hyes, htk⟩ := takes_yesq HBB.out
    have hLY := HL6.out
    rw [show takeO kLift s.data.toList (some j) = some (j + 5) from htk] at hLY
    have HLY := Lib.hid hLY
    have HYES := Lib.hid hyes
    clear hLY hyes htk HL6
    have hLA := HLY.out
    have HAR := Lib.hid (l6Args_any HT.out hs 1 (by decide) 13 E0 E0 0 Z0 Z0 [] (by simp) none 0 none 0 none 0 [] w0 w6 _ hLA.rd hLA.grown (fun z => w0.heap.size ≤ z) hLA.hR (fun z hz e => by have := hLA.hR; have : w0.heap.size ≤ z := hz; omega) (fun _ hz => hz) ⟨.nil _ _, .nil _ _, RowM.start _ _ _⟩)
    clear hLA
    go_wp2_with fail
    refine HAR.out.mono ?_
    rintro e we ⟨m, ts, o1, tp', tc', rp', rc', p', c', xs', hm, hend, har, rfl, hN, hre, hge⟩
    have hg := grownBy_trans (gb_below H0.out.2.1 (some R)) hge
    have hout := (hge.block w.heap.size (by have := H0.out.1; omega) (fun e => by have := Option.some.inj e; have := H0.out.2.2.2; omega)).trans H0.out.2.2.1
    have q0 := cell_of_blk hout 0
    have q1 := cell_of_blk hout 1
    have q2 := cell_of_blk hout 2
    have q3 := cell_of_blk hout 3
    have q4 := cell_of_blk hout 4
    have q5 := cell_of_blk hout 5
    have q6 := cell_of_blk hout 6
    have q7 := cell_of_blk hout 7
    have q8 := cell_of_blk hout 8
    have qz := unfrozen_of_blk hout
    simp only [List.getElem?_toArray, List.getElem?_cons_zero, List.getElem?_cons_succ] at q0 q1 q2 q3 q4 q5 q6 q7 q8
    have HX := Lib.hid (And.intro hg (And.intro hre hN))
    have HARG := Lib.hid (args_pts (s := s.data.toList) (N := 1) (by decide) hm hend har)
    clear hg hre hN hge hout har hend hm
    go_wp2_with fail
    refine bodyPost_ret (v := tmV (.mk 13 E0 E0 0 Z0 Z0 ts) tp' tc' rp' rc' p' c') ?_ rfl ?_
    · rw [results_cell1 rfl]
      go_simp
      all_goals (repeat' apply And.intro) <;> rfl
    · obtain ⟨x1, x2, x3⟩ := HX.out
      exact tm_fin x1 H0.out.2.2.2 x2 (x3.tm.mono (fun z hz _ => by have := H0.out.1; have : w0.heap.size ≤ z := hz; omega)) (termO_at (g := fun i => (pts f s.data.toList (signs 1) i).map fun r => (mkT 13 [] 0 r.1, r.2)) (i := j + 5) (by unfold pOpen; rw [if_neg (by rw [HN1.out _ rfl]; decide), if_neg (by rw [HN2.out _ rfl]; decide), if_neg (by rw [HN3.out _ rfl]; decide), if_neg (by rw [HN4.out _ rfl]; decide), if_neg (by rw [HN5.out _ rfl]; decide), if_pos HYES.out]; rfl) (termO_args (fun ts => mkT 13 [] 0 ts) HARG.out))
  have hL6b := HL6.out
  rw [(takes_no HBB.out).1] at hL6b
  have HL6b := Lib.hid hL6b
  have HN6 := Lib.hid (takes_no HBB.out).2
  clear hL6b HL6 HBB
  have HQ7 := Lib.hid (takeO_any [33] (by decide) hs HL6b.out.rd)
  go_wp2_with fail
  refine HQ7.out.mono ?_
  rintro e w7 ⟨rfl, hr7, hg7⟩
  have HL7 := Lib.hid (HL6b.out.step hr7 hg7)
  clear hr7 hg7
  obtain ⟨bb, hbb⟩ : ∃ b, takes [33] s.data.toList o = b := ⟨_, rfl⟩
  rw [hbb]
  have HBB := Lib.hid hbb
  clear hbb
  cases bb
  rotate_left
  · obtain ⟨j, rfl, hyes, htk⟩ := takes_yesq HBB.out
    have hLY := HL7.out
    rw [show takeO [33] s.data.toList (some j) = some (j + 1) from htk] at hLY
    have HLY := Lib.hid hLY
    have HYES := Lib.hid hyes
    clear hLY hyes htk HL7
    have hLA := HLY.out
    have HAR := Lib.hid (l6Args_any HT.out hs 1 (by decide) 4 ⟨#[33]⟩ E0 0 Z0 Z0 [] (by simp) none 0 none 0 none 0 [] w0 w7 _ hLA.rd hLA.grown (fun z => w0.heap.size ≤ z) hLA.hR (fun z hz e => by have := hLA.hR; have : w0.heap.size ≤ z := hz; omega) (fun _ hz => hz) ⟨.nil _ _, .nil _ _, RowM.start _ _ _⟩)
    clear hLA
    go_wp2_with fail
    refine HAR.out.mono ?_
    rintro e we ⟨m, ts, o1, tp', tc', rp', rc', p', c', xs', hm, hend, har, rfl, hN, hre, hge⟩
    have hg := grownBy_trans (gb_below H0.out.2.1 (some R)) hge
    have hout := (hge.block w.heap.size (by have := H0.out.1; omega) (fun e => by have := Option.some.inj e; have := H0.out.2.2.2; omega)).trans H0.out.2.2.1
    have q0 := cell_of_blk hout 0
    have q1 := cell_of_blk hout 1
    have q2 := cell_of_blk hout 2
    have q3 := cell_of_blk hout 3
    have q4 := cell_of_blk hout 4
    have q5 := cell_of_blk hout 5
    have q6 := cell_of_blk hout 6
    have q7 := cell_of_blk hout 7
    have q8 := cell_of_blk hout 8
    have qz := unfrozen_of_blk hout
    simp only [List.getElem?_toArray, List.getElem?_cons_zero, List.getElem?_cons_succ] at q0 q1 q2 q3 q4 q5 q6 q7 q8
    have HX := Lib.hid (And.intro hg (And.intro hre hN))
    have HARG := Lib.hid (args_pts (s := s.data.toList) (N := 1) (by decide) hm hend har)
    clear hg hre hN hge hout har hend hm
    go_wp2_with fail
    refine bodyPost_ret (v := tmV (.mk 4 ⟨#[33]⟩ E0 0 Z0 Z0 ts) tp' tc' rp' rc' p' c') ?_ rfl ?_
    · rw [results_cell1 rfl]
      go_simp
      all_goals (repeat' apply And.intro) <;> rfl
    · obtain ⟨x1, x2, x3⟩ := HX.out
      exact tm_fin x1 H0.out.2.2.2 x2 (x3.tm.mono (fun z hz _ => by have := H0.out.1; have : w0.heap.size ≤ z := hz; omega)) (termO_at (g := fun i => (pts f s.data.toList (signs 1) i).map fun r => (mkT 4 [33] 0 r.1, r.2)) (i := j + 1) (by unfold pOpen; rw [if_neg (by rw [HN1.out _ rfl]; decide), if_neg (by rw [HN2.out _ rfl]; decide), if_neg (by rw [HN3.out _ rfl]; decide), if_neg (by rw [HN4.out _ rfl]; decide), if_neg (by rw [HN5.out _ rfl]; decide), if_neg (by rw [HN6.out _ rfl]; decide), if_pos HYES.out]; rfl) (termO_args (fun ts => mkT 4 [33] 0 ts) HARG.out))
  have hL7b := HL7.out
  rw [(takes_no HBB.out).1] at hL7b
  have HL7b := Lib.hid hL7b
  have HN7 := Lib.hid (takes_no HBB.out).2
  clear hL7b HL7 HBB
  have HTT := Lib.hid (HT.out o w7 HL7b.out.rd)
  go_wp2_with fail
  refine HTT.out.mono ?_
  rintro e w8 ⟨v8, t8, o8, rfl, ⟨tp8, tc8, rp8, rc8, p8, c8, rfl, hN8⟩, ho8, hr8, hg8⟩
  have HO8 := Lib.hid ho8
  have HAR := Lib.hid (l6Rest_any HT.out hs t8 tp8 tc8 rp8 rc8 p8 c8 o8 w7 w8 hr8 hg8 (by have := HL7b.out.grown.size; have := HL7b.out.hR; omega) hN8)
  clear ho8 hr8 hg8 hN8
  go_wp2_with fail
  refine HAR.out.mono ?_
  rintro e we ⟨ve, te, oe, rfl, ⟨tp', tc', rp', rc', p', c', rfl, hN⟩, hoe, hre, hge0⟩
  have hge := grownBy_trans HL7b.out.grown hge0
  have hlo := HL7b.out.grown.size
  have hg := grownBy_trans (gb_below H0.out.2.1 (some R)) hge
  have hout := (hge.block w.heap.size (by have := H0.out.1; omega) (fun e => by have := Option.some.inj e; have := H0.out.2.2.2; omega)).trans H0.out.2.2.1
  have q0 := cell_of_blk hout 0
  have q1 := cell_of_blk hout 1
  have q2 := cell_of_blk hout 2
  have q3 := cell_of_blk hout 3
  have q4 := cell_of_blk hout 4
  have q5 := cell_of_blk hout 5
  have q6 := cell_of_blk hout 6
  have q7 := cell_of_blk hout 7
  have q8 := cell_of_blk hout 8
  have qz := unfrozen_of_blk hout
  simp only [List.getElem?_toArray, List.getElem?_cons_zero, List.getElem?_cons_succ] at q0 q1 q2 q3 q4 q5 q6 q7 q8
  have HX := Lib.hid (And.intro hg (And.intro hre hN))
  have HOE := Lib.hid hoe
  have HLO := Lib.hid hlo
  clear hg hre hN hge hge0 hout hoe hlo
  go_wp2_with fail
  refine bodyPost_ret (v := tmV te tp' tc' rp' rc' p' c') ?_ rfl ?_
  · rw [results_cell1 rfl]
    go_simp
    all_goals (repeat' apply And.intro) <;> rfl
  · obtain ⟨x1, x2, x3⟩ := HX.out
    exact tm_fin x1 H0.out.2.2.2 x2 (x3.mono (fun z hz _ => by have := H0.out.1; have := HLO.out; have : w7.heap.size ≤ z := hz; omega)) (open_rest HN1.out HN2.out HN3.out HN4.out HN5.out HN6.out HN7.out HO8.out HOE.out)
end Go.Proofs.YtfeijijeohfpgaaGreatDoor
namespace Go.Proofs.YtfeijijeohfpgaaGreatDoor
open Go Go.RowKit

set_option maxRecDepth 100000 in
set_option maxHeartbeats 1000000 in
theorem bent_any (b : Nat) (w : World) (hc : Cur w b) : Calls Tryz.prog 86 #[.pointer (some ⟨b, 0, none⟩)] w (BentT b w) := by
  obtain ⟨i0, hi, hz0, hz1, hz2⟩ := info_parts infoTy
  have hbw := hc.lt
  have HR0 := Lib.hid (Rdy.start hc)
  clear hc
  go_enter Tryz.func86, Tryz.ntmps86
  go_wp2_with fail
  refine (draw_any 4 (by decide) (by decide) b _ HR0.out.cur).mono ?_
  rintro e w1 ⟨v1, t, rfl, hn, hg, hc1, hgr1⟩
  have hr1 := HR0.out.step hbw hc1 hgr1
  obtain ⟨s1, es, hv1, hes, hG⟩ := hg
  subst hv1
  have hT := hG.all
  rw [hes] at hT
  obtain ⟨p1, c1, rfl⟩ := hT.form
  rw [World.size_alloc] at hT hG
  have hlt := hr1.lt
  have hbox : Box w b w1.heap.size (w1.alloc (.cells #[.int .i64 t.kind, .slice p1 t.args.length c1] 26)) t (.slice p1 t.args.length c1) :=
    ⟨hr1.below (alloc_below w1 _), blk_new w1 _, (hT.mono (C' := fun z => w.heap.size + 1 ≤ z ∧ z ≠ w1.heap.size) (fun z hz hl => ⟨hz, by omega⟩)).keep (alloc_below w1 _), by omega⟩
  have HBX := Lib.hid hbox
  have HG := Lib.hid hG
  have HES := Lib.hid hes
  have hn15 : t.nodes + 1 ≤ 16 := hn
  have hcur := HBX.out.rdy.cur
  have HB0 := Lib.hid (below_any b 10 _ (by decide) (by decide) hcur)
  clear hc1 hgr1 hr1 hT hG hbox hes hn hcur
  go_wp2_with fail
  refine HB0.out.mono ?_
  rintro e w2 ⟨x, hx, rfl, hc2, hg2⟩
  have hb2 := HBX.out.step hbw hc2 hg2
  obtain ⟨⟨f0, f1, fz⟩, g0, g1, gz⟩ := hb2.facts
  have HB2 := Lib.hid hb2
  have HS2 := Lib.hid ((Stays.of_below (C := fun z => w.heap.size + 1 ≤ z) (alloc_below w1 (.cells #[.int .i64 t.kind, .slice p1 t.args.length c1] 26))).trans ⟨hg2.size, fun z hz hl => hg2.block z hl (fun e => by have := Option.some.inj e; omega)⟩)
  clear hc2 hg2 hb2 HB0
  obtain ⟨x0, x10⟩ := hx
  rcases (show x = 0 ∨ x = 1 ∨ x = 2 ∨ x = 3 ∨ 4 ≤ x by omega) with rfl | rfl | rfl | rfl | h4
  · clear f0 f1 fz g0 g1 gz
    go_wp2_with fail
    refine (below_any b 6 w2 (by decide) (by decide) HB2.out.rdy.cur).mono ?_
    rintro e w3 ⟨y, hy, rfl, hc3, hg3⟩
    have hb3 := HB2.out.step hbw hc3 hg3
    obtain ⟨⟨f0, f1, fz⟩, g0, g1, gz⟩ := hb3.facts
    have HB3 := Lib.hid hb3
    clear hc3 hg3 hb3 hy
    go_wp2_with fail
    refine bodyPost_ret (v := .agg #[.int .i64 y, .slice p1 t.args.length c1]) ?_ rfl ?_
    · rw [results_cell1 rfl]
      go_simp
    · exact bent_fin (t := .mk y t.args) (HB3.out.setKind hbw y) hbw (by rw [t.nodes_eq] at hn15; simp only [Ty.nodes]; omega)
  · clear f0 f1 fz g0 g1 gz
    have hd2 := HB2.out.below (Below.refl _ w2).drew
    obtain ⟨⟨f0, f1, fz⟩, g0, g1, gz⟩ := HB2.out.facts
    have hlen : es.length = t.args.length := by rw [← HES.out, List.length_map]
    have hl16 : t.args.length ≤ 15 := by have := nodesS_ge t.args; rw [t.nodes_eq] at hn15; omega
    have HLEN := Lib.hid hlen
    have HD2 := Lib.hid hd2
    have HBW := Lib.hid (fun (W : World) (hW : Below w2.drew.heap.size w2.drew W) => hd2.below hW)
    have HSW := Lib.hid (fun (W : World) (hW : Below w2.drew.heap.size w2.drew W) => (HS2.out.trans (Stays.of_below (Below.refl _ w2).drew)).trans (Stays.of_below hW))
    have HGW := Lib.hid (fun (W : World) (hW : Below w2.drew.heap.size w2.drew W) => (HG.out.stays (HSW.out W hW)))
    have HD := Lib.hid (fun (W : World) (hW : Below w2.drew.heap.size w2.drew W) => (hd2.below hW).facts.1.2.1)
    have HDZ := Lib.hid (fun (W : World) (hW : Below w2.drew.heap.size w2.drew W) => (hd2.below hW).facts.1.2.2)
    have HKB := Lib.hid (fun (W : World) (hW : Below w2.drew.heap.size w2.drew W) (x1 x2 : Value) (w' : World) (g2 cap2 : Nat) (hA : Appd W w' (w.heap.size + 1) 26 2 (.slice p1 t.args.length c1) es.length (ecells es) [x1, x2] g2 cap2) =>
      (((hA.kept w1.heap.size (hd2.below hW).bxlt (fun e => by have := (HG.out.own.lt _ e).2; omega)).1.trans (hd2.below hW).box) : w'.heap[w1.heap.size]? = some (.cells #[.int .i64 t.kind, .slice p1 t.args.length c1] 26 (0, 0))))
    clear hd2 hlen
    go_wp2_with fail
    go_region_law (first
        | (refine step_app1 (w0 := w3) (v := .slice p1 t.args.length c1) (n := es.length) (xs := ecells es) rfl (.tmp 19) (.tmp 21) rfl Tryz.underlying24 hi hz0 hz1 hz2 rfl (by decide) rfl (HGW.out w3 hb3).own _ rfl (by simp) rfl (fun u hu => by simp at hu; rcases hu with rfl | rfl <;> rfl) (by have := HLEN.out; unfold maxLen; omega) (by have := HLEN.out; omega) (by have := (HBW.out w3 hb3).bxlt; have := HB2.out.lt; omega) ?_; intro w' g2 cap2 hA; have d6b := HKB.out _ hb3 _ _ _ _ _ hA; have d6 : w'.cell? ⟨w1.heap.size, 1, none⟩ = some (.slice p1 t.args.length c1) := cell_of_blk d6b 1; have d6z := unfrozen_of_blk d6b)
        | (go_simp; go_at_call 88; refine (l3Int_any _).mono ?_; rintro e w3 ⟨rfl, hb3⟩; have d4 := HD.out w3 hb3; have d4z := HDZ.out w3 hb3; have d5 := fun (o : Obj) => al_cell d4 o))
    all_goals
      have hbz := box_app (HBW.out w3 hb3) hbw HG.out rfl (HSW.out w3 hb3) hA HES.out
      obtain ⟨wz, hwz⟩ : ∃ wz, w'.setCell ⟨w1.heap.size, 1, none⟩ (.slice (some ⟨g2, 0, none⟩) (es.length + 1) cap2) = wz := ⟨_, rfl⟩
      rw [hwz] at hbz ⊢
      have HBZ := Lib.hid hbz
      clear hwz hA hb3 d4 d4z d5 d6b d6 d6z f0 f1 fz g0 g1 gz
      obtain ⟨⟨f0, f1, fz⟩, g0, g1, gz⟩ := hbz.facts
      clear hbz
      go_wp2_with fail
      refine bodyPost_ret (v := .agg #[.int .i64 t.kind, .slice (some ⟨g2, 0, none⟩) (es.length + 1) cap2]) ?_ rfl ?_
      · rw [results_cell1 rfl]
        go_simp
      · exact bent_fin (t := .mk t.kind (t.args ++ [.mk 1 []])) HBZ.out hbw (by rw [t.nodes_eq] at hn15; simp only [Ty.nodes, nodesS_append, nodesS]; omega)
  · clear f0 f1 fz g0 g1 gz
    go_wp2_with fail
    refine (below_any b 6 w2 (by decide) (by decide) HB2.out.rdy.cur).mono ?_
    rintro e w3 ⟨y, hy, rfl, hc3, hg3⟩
    have HB3 := Lib.hid (HB2.out.step hbw hc3 hg3)
    obtain ⟨y0, y6⟩ := hy
    clear hc3 hg3
    go_wp2_with fail
    go_loopw [5] (fun i wr => ∃ (k : Nat) (u : Ty) (p : Option Addr) (c : Nat), (k : Int) ≤ 1 + y ∧ i = .int .i64 k ∧ u.nodes ≤ 16 + k ∧ Box w b w1.heap.size wr u (.slice p u.args.length c)) (fun i _ => (1 + y).toNat - (intOf i).toNat)
    case atStart => exact ⟨0, t, p1, c1, by omega, rfl, by omega, HB3.out⟩
    case round =>
      obtain ⟨k, u, p, c, hk, rfl, hu, hb⟩ := hrel
      obtain ⟨⟨f0, f1, fz⟩, g0, g1, gz⟩ := hb.facts
      have HB := Lib.hid hb
      clear hb
      by_cases hlk : (k : Int) < 1 + y
      · have HC := Lib.hid (l3Code_any HB.out.tt (by rw [u.nodes_eq] at hu; omega))
        go_wp2_with fail
        refine HC.out.mono ?_
        rintro e w4 ⟨v4, rfl, hg4, hb4⟩
        have hB4 := HB.out.below hb4
        obtain ⟨s4, rfl, hs4⟩ := hg4.ts (w := w) (bx := w1.heap.size) (by have := HB.out.rdy.lt; omega) HB.out.bxlt
        obtain ⟨p4, c4, rfl⟩ := hs4.form
        clear f0 f1 fz g0 g1 gz
        obtain ⟨⟨f0, f1, fz⟩, g0, g1, gz⟩ := hB4.facts
        have HB4 := Lib.hid hB4
        have HS4 := Lib.hid hs4
        clear hB4 hs4 hg4 hb4
        go_wp2_with fail
        go_roundw
        case rel => exact ⟨k + 1, .mk 4 [u], p4, c4, by omega, by go_num, by simp only [Ty.nodes, nodesS]; omega, HB4.out.set hbw HS4.out⟩
        case measure => simp [intOf]; omega
      · go_wp2_with fail
        refine bodyPost_ret (v := .agg #[.int .i64 u.kind, .slice p u.args.length c]) ?_ rfl ?_
        · rw [results_cell1 rfl]
          go_simp
        · exact bent_fin HB.out hbw (by omega)
  · clear f0 f1 fz g0 g1 gz
    go_wp2_with fail
    go_loopw [6] (fun i wr => ∃ (k : Nat) (u : Ty) (p : Option Addr) (c : Nat), k ≤ 3 ∧ i = .int .i64 k ∧ u.nodes + 1 ≤ 16 * 2 ^ k ∧ Box w b w1.heap.size wr u (.slice p u.args.length c)) (fun i _ => 3 - (intOf i).toNat)
    case atStart => exact ⟨0, t, p1, c1, by omega, rfl, by simpa using hn15, HB2.out⟩
    case round =>
      obtain ⟨k, u, p, c, hk, rfl, hu, hb⟩ := hrel
      have hk8 : 2 ^ k ≤ 2 ^ 3 := Nat.pow_le_pow_right (by decide) hk
      have hu2 : u.nodes ≤ 127 := by omega
      have HU := Lib.hid hu
      clear hu hk8
      obtain ⟨⟨f0, f1, fz⟩, g0, g1, gz⟩ := hb.facts
      have HB := Lib.hid hb
      clear hb
      by_cases hlk : (k : Int) < 3
      · have hna : nodesS u.args ≤ 1048576 := by rw [u.nodes_eq] at hu2; omega
        have HC := Lib.hid (l3Fun_any HB.out.tt HB.out.tt hna hna)
        clear hna
        go_wp2_with fail
        refine HC.out.mono ?_
        rintro e w4 ⟨v4, rfl, hg4, hb4⟩
        have hB4 := HB.out.below hb4
        obtain ⟨s4, rfl, hs4⟩ := hg4.ts (w := w) (bx := w1.heap.size) (by have := HB.out.rdy.lt; omega) HB.out.bxlt
        obtain ⟨p4, c4, rfl⟩ := hs4.form
        clear f0 f1 fz g0 g1 gz
        obtain ⟨⟨f0, f1, fz⟩, g0, g1, gz⟩ := hB4.facts
        have HB4 := Lib.hid hB4
        have HS4 := Lib.hid hs4
        clear hB4 hs4 hg4 hb4
        go_wp2_with fail
        go_roundw
        case rel => exact ⟨k + 1, .mk 3 [u, u], p4, c4, by omega, by go_num, by have := HU.out; simp only [Ty.nodes, nodesS, Nat.pow_succ]; omega, HB4.out.set hbw HS4.out⟩
        case measure => simp [intOf]; omega
      · go_wp2_with fail
        refine bodyPost_ret (v := .agg #[.int .i64 u.kind, .slice p u.args.length c]) ?_ rfl ?_
        · rw [results_cell1 rfl]
          go_simp
        · exact bent_fin HB.out hbw (by omega)
  · have e0 : (x == 0) = false := by rw [beq_eq_false_iff_ne]; omega
    have e1 : (x == 1) = false := by rw [beq_eq_false_iff_ne]; omega
    have e2 : (x == 2) = false := by rw [beq_eq_false_iff_ne]; omega
    have e3 : (x == 3) = false := by rw [beq_eq_false_iff_ne]; omega
    go_wp2_with fail
    refine bodyPost_ret (v := .agg #[.int .i64 t.kind, .slice p1 t.args.length c1]) ?_ rfl ?_
    · rw [results_cell1 rfl]
      go_simp
    · exact bent_fin HB2.out hbw (by omega)
end Go.Proofs.YtfeijijeohfpgaaGreatDoor
namespace Go.Proofs.YtfeijijeohfpgaaGreatDoor
open Go Go.RowKit

set_option maxRecDepth 100000 in
set_option maxHeartbeats 8000000 in
theorem bentM_any (b : Nat) (w : World) (hc : Cur w b) : Calls Tryz.prog 38 #[.pointer (some ⟨b, 0, none⟩)] w (DrawM 400 b w) := by
  obtain ⟨i0, hi, hz0, hz1, hz2⟩ := info_parts infoTm
  have hbw := hc.lt
  have HR0 := Lib.hid (RdyM.start hc)
  clear hc
  go_enter Tryz.func38, Tryz.ntmps38
  go_wp2_with fail
  refine (below_any b 4 _ (by decide) (by decide) HR0.out.cur).mono ?_
  rintro e w1 ⟨q, hq, rfl, hc1, hg1⟩
  have HR1 := Lib.hid (HR0.out.step hbw hc1 hg1)
  obtain ⟨q0, q4⟩ := hq
  clear hc1 hg1
  have HIW := Lib.hid (anyM_any (1 + q) (by omega) (by omega) b w1 HR1.out.cur)
  go_wp2_with fail
  refine HIW.out.mono ?_
  rintro e w2 ⟨t, tp, tc, rp, rc, p, c, xs, rfl, hw, hN, hc2, hg2⟩
  have hr2 := HR1.out.step hbw hc2 hg2
  have hlt1 := HR1.out.lt
  have hlt2 := hr2.lt
  have hE : NewTm w2 (w.heap.size + 1) (InBox w w2.heap.size) t tp tc rp rc p c xs := hN.base (by omega) (fun z hz hl => ⟨by omega, by omega⟩)
  rw [t.eta] at hE
  have HBX0 := Lib.hid (show BoxM w b w2.heap.size (w2.alloc (.cells (tmC t tp tc rp rc p c) 29)) (.mk t.kind t.name t.other t.n t.ty t.res t.args) tp tc rp rc p c xs from
    ⟨hr2.below (al_below _ _), blk_new w2 _, hE.stays (.of_below (al_below _ _)), by omega⟩)
  have hwe := t.wt_eq
  have HW := Lib.hid (show t.name.size + t.other.size + nodesS t.ty.args + nodesS t.res.args + wtS t.args ≤ 144 by omega)
  have HC2 := Lib.hid (below_any b 14 _ (by decide) (by decide) HBX0.out.rdy.cur)
  have hal : wtS t.args ≤ 144 := by omega
  have hlen := wtS_ge t.args
  have hl3 : t.args.length ≤ 144 := by omega
  clear hr2 hc2 hg2 hN hE hw hwe hal hlen HIW
  go_wp2_with fail
  refine HC2.out.mono ?_
  rintro e w3 ⟨x, hx, rfl, hc3, hg3⟩
  have hb3 := HBX0.out.step hbw hc3 hg3
  have HB3 := Lib.hid hb3
  clear hc3 hg3 HC2 HBX0
  obtain ⟨x0, x14⟩ := hx
  rcases (show x = 0 ∨ x = 1 ∨ x = 2 ∨ x = 3 ∨ x = 4 ∨ x = 5 ∨ 6 ≤ x by omega) with rfl | rfl | rfl | rfl | rfl | rfl | h6
  · clear hb3
    go_wp2_with fail
    refine (below_any b 15 w3 (by decide) (by decide) HB3.out.rdy.cur).mono ?_
    rintro e w4 ⟨y, hy, rfl, hc4, hg4⟩
    have hb4 := HB3.out.step hbw hc4 hg4
    have HB4 := Lib.hid hb4
    obtain ⟨⟨g0, g1, g2, g3, g4, g5, g6, g7, g8⟩, gz⟩ := hb4.facts
    obtain ⟨⟨r0, r1, r2, r3, r4, r5, r6, r7, r8⟩, rz⟩ := hb4.rdy.facts
    clear hb4 hc4 hg4 hy
    go_wp2_with fail
    refine bodyPost_ret (v := tmV (.mk y t.name t.other t.n t.ty t.res t.args) tp tc rp rc p c) ?_ rfl ?_
    · rw [results_cell1 rfl]
      go_simp
      all_goals (repeat' apply And.intro) <;> rfl
    · have := (HB4.out.setKind hbw y).fin (m := 400) hbw (by have := HW.out; skip; simp only [Tm.wt]; omega)
      rw [setN9] at this
      exact this
  · clear hb3
    go_wp2_with fail
    refine (pickInt_litG [0, 1, 10006, 10007, -1] 5 b w3 _ rfl (by decide) (by decide) rfl HB3.out.rdy.cur).mono ?_
    rintro e w4 ⟨y, hy, rfl, hc4, hg4⟩
    have hb4 := HB3.out.step hbw hc4 hg4
    have HB4 := Lib.hid hb4
    obtain ⟨⟨g0, g1, g2, g3, g4, g5, g6, g7, g8⟩, gz⟩ := hb4.facts
    obtain ⟨⟨r0, r1, r2, r3, r4, r5, r6, r7, r8⟩, rz⟩ := hb4.rdy.facts
    clear hb4 hc4 hg4 hy
    go_wp2_with fail
    refine bodyPost_ret (v := tmV (.mk t.kind t.name t.other y t.ty t.res t.args) tp tc rp rc p c) ?_ rfl ?_
    · rw [results_cell1 rfl]
      go_simp
      all_goals (repeat' apply And.intro) <;> rfl
    · have := (HB4.out.setNum hbw y).fin (m := 400) hbw (by have := HW.out; skip; simp only [Tm.wt]; omega)
      rw [setN9] at this
      exact this
  · clear hb3
    go_wp2_with fail
    refine (pickS_litG [⟨#[]⟩, ⟨#[120]⟩, ⟨#[108, 101, 116]⟩, ⟨#[97, 98, 99, 100, 101]⟩, ⟨#[43]⟩] 5 b w3 _ rfl (by decide) (by decide) rfl HB3.out.rdy.cur).mono ?_
    rintro e w4 ⟨s, hs, rfl, hc4, hg4⟩
    have hb4 := HB3.out.step hbw hc4 hg4
    have HB4 := Lib.hid hb4
    have HS := Lib.hid (show s.size ≤ 5 by simp at hs; rcases hs with rfl | rfl | rfl | rfl | rfl <;> decide)
    obtain ⟨⟨g0, g1, g2, g3, g4, g5, g6, g7, g8⟩, gz⟩ := hb4.facts
    obtain ⟨⟨r0, r1, r2, r3, r4, r5, r6, r7, r8⟩, rz⟩ := hb4.rdy.facts
    clear hb4 hc4 hg4 hs
    go_wp2_with fail
    refine bodyPost_ret (v := tmV (.mk t.kind s t.other t.n t.ty t.res t.args) tp tc rp rc p c) ?_ rfl ?_
    · rw [results_cell1 rfl]
      go_simp
      all_goals (repeat' apply And.intro) <;> rfl
    · have := (HB4.out.setName hbw s).fin (m := 400) hbw (by have := HW.out; have := HS.out; simp only [Tm.wt]; omega)
      rw [setN9] at this
      exact this
  · have hbd := hb3.below (Below.refl _ w3).drew
    have HBD := Lib.hid hbd
    obtain ⟨⟨g0, g1, g2, g3, g4, g5, g6, g7, g8⟩, gz⟩ := hb3.facts
    obtain ⟨⟨r0, r1, r2, r3, r4, r5, r6, r7, r8⟩, rz⟩ := hb3.rdy.facts
    clear hb3 hbd
    go_wp2_with fail
    go_region_law (first
      | (refine step_app1 (w0 := w6) (v := .slice p t.args.length c) (n := t.args.length) (xs := xs) rfl (.tmp 31) (.tmp 33) rfl Tryz.underlying27 hi hz0 hz1 hz2 rfl (by decide) rfl HB6.out.new.row.own _ rfl (by simp) rfl (fun u hu => by simp at hu; rcases hu with rfl | rfl | rfl | rfl | rfl | rfl | rfl | rfl | rfl <;> rfl) (by unfold maxLen; omega) (by omega) (by have := HB6.out.bxlt; have := HB6.out.lt; omega) ?_; intro w' g2' cap2 hA; have d6b := (hA.kept w2.heap.size HB6.out.bxlt (fun e => (HB6.out.new.row.blk _ e).2 rfl)).1.trans HB6.out.box; have d6 : w'.cell? ⟨w2.heap.size, 8, none⟩ = some (.slice p t.args.length c) := cell_of_blk d6b 8; have d6z := unfrozen_of_blk d6b)
      | (go_simp; go_at_call 85; refine (l5Var_any _ w3.drew).mono ?_; rintro e w6 ⟨rfl, hb6⟩; have hbx6 := HBD.out.below hb6; have HB6 := Lib.hid hbx6; have d4 : w6.cell? ⟨w2.heap.size, 8, none⟩ = some (.slice p t.args.length c) := hbx6.facts.1.2.2.2.2.2.2.2.2; have d4z := hbx6.facts.2; have d5 := fun (o : Obj) => al_cell d4 o; clear hbx6))
    all_goals
      have hx := (leaf_new w6 0 (fun z => InBox w w2.heap.size z ∧ (Value.slice p t.args.length c).ownBlock ≠ some z) 1 ⟨#[120]⟩ 0).tm.ms
      have hbz := HB6.out.app hbw hA hx
      have HBZ := Lib.hid hbz
      obtain ⟨wz, hwz⟩ : ∃ wz, w'.setCell ⟨w2.heap.size, 8, none⟩ (.slice (some ⟨g2', 0, none⟩) (t.args.length + 1) cap2) = wz := ⟨_, rfl⟩
      rw [hwz] at HBZ hbz ⊢
      clear hwz hx hA d4 d4z d5 d6b d6 d6z g0 g1 g2 g3 g4 g5 g6 g7 g8 gz r0 r1 r2 r3 r4 r5 r6 r7 r8 rz hb6
      obtain ⟨⟨g0, g1, g2, g3, g4, g5, g6, g7, g8⟩, gz⟩ := hbz.facts
      obtain ⟨⟨r0, r1, r2, r3, r4, r5, r6, r7, r8⟩, rz⟩ := hbz.rdy.facts
      have el : (t.args ++ [leaf 1 ⟨#[120]⟩ 0]).length = t.args.length + 1 := by simp
      rw [el] at g8
      clear hbz el
      go_wp2_with fail
      refine bodyPost_ret (v := tmV (.mk t.kind t.name t.other t.n t.ty t.res (t.args ++ [leaf 1 ⟨#[120]⟩ 0])) tp tc rp rc (some ⟨g2', 0, none⟩) cap2) ?_ rfl ?_
      · rw [results_cell1 rfl]
        go_simp
        all_goals (repeat' apply And.intro) <;> first | rfl | simp [Tm.args]
      · have := HBZ.out.fin (m := 400) hbw (by have := HW.out; have hl : wtS (t.args ++ [leaf 1 ⟨#[120]⟩ 0]) = wtS t.args + 2 := (by rw [wtS_append]; rfl); simp only [Tm.wt]; rw [hl]; omega)
        rw [setN9] at this
        simp only [Tm.args, List.length_append, List.length_cons, List.length_nil] at this
        exact this
  · clear hb3
    go_wp2_with fail
    refine (bent_any b w3 HB3.out.rdy.cur).mono ?_
    rintro e w4 ⟨v4, u, rfl, hu, htt, hc4, hg4⟩
    obtain ⟨s4, rfl, hs4⟩ := htt
    obtain ⟨p4, c4, rfl⟩ := hs4.form
    have hb4 := HB3.out.step hbw hc4 hg4
    have HB4 := Lib.hid hb4
    have HT4 := Lib.hid (hs4.mono (C' := fun z => InBox w w2.heap.size z ∧ (Value.slice p t.args.length c).ownBlock ≠ some z) (fun z hz _ => ⟨InBox.of HB3.out.lt HB3.out.bxlt hz, fun e => by
      have := (HB3.out.new.row.own.lt z e).2
      have : w3.heap.size ≤ z := hz
      omega⟩))
    have HU := Lib.hid hu
    obtain ⟨⟨g0, g1, g2, g3, g4, g5, g6, g7, g8⟩, gz⟩ := hb4.facts
    obtain ⟨⟨r0, r1, r2, r3, r4, r5, r6, r7, r8⟩, rz⟩ := hb4.rdy.facts
    clear hb4 hc4 hg4 hs4 hu
    go_wp2_with fail
    refine bodyPost_ret (v := tmV (.mk t.kind t.name t.other t.n u t.res t.args) p4 c4 rp rc p c) ?_ rfl ?_
    · rw [results_cell1 rfl]
      go_simp
      all_goals (repeat' apply And.intro) <;> rfl
    · have := (HB4.out.setTy hbw HT4.out).fin (m := 400) hbw (by have := HW.out; have := HU.out; rw [u.nodes_eq] at this; simp only [Tm.wt]; omega)
      rw [setN9] at this
      exact this
  · clear hb3
    go_wp2_with fail
    refine (pickS_litG [⟨#[120]⟩, ⟨#[122]⟩] 2 b w3 _ rfl (by decide) (by decide) rfl HB3.out.rdy.cur).mono ?_
    rintro e w4 ⟨s, hs, rfl, hc4, hg4⟩
    have hb4 := HB3.out.step hbw hc4 hg4
    have HB4 := Lib.hid hb4
    have HS := Lib.hid (show s.size ≤ 1 by simp at hs; rcases hs with rfl | rfl <;> decide)
    obtain ⟨⟨g0, g1, g2, g3, g4, g5, g6, g7, g8⟩, gz⟩ := hb4.facts
    obtain ⟨⟨r0, r1, r2, r3, r4, r5, r6, r7, r8⟩, rz⟩ := hb4.rdy.facts
    clear hb4 hc4 hg4 hs
    go_wp2_with fail
    refine bodyPost_ret (v := tmV (.mk t.kind t.name s t.n t.ty t.res t.args) tp tc rp rc p c) ?_ rfl ?_
    · rw [results_cell1 rfl]
      go_simp
      all_goals (repeat' apply And.intro) <;> rfl
    · have := (HB4.out.setOther hbw s).fin (m := 400) hbw (by have := HW.out; have := HS.out; simp only [Tm.wt]; omega)
      rw [setN9] at this
      exact this
  · have e0 : (x == 0) = false := by rw [beq_eq_false_iff_ne]; omega
    have e1 : (x == 1) = false := by rw [beq_eq_false_iff_ne]; omega
    have e2 : (x == 2) = false := by rw [beq_eq_false_iff_ne]; omega
    have e3 : (x == 3) = false := by rw [beq_eq_false_iff_ne]; omega
    have e4 : (x == 4) = false := by rw [beq_eq_false_iff_ne]; omega
    have e5 : (x == 5) = false := by rw [beq_eq_false_iff_ne]; omega
    obtain ⟨⟨g0, g1, g2, g3, g4, g5, g6, g7, g8⟩, gz⟩ := hb3.facts
    obtain ⟨⟨r0, r1, r2, r3, r4, r5, r6, r7, r8⟩, rz⟩ := hb3.rdy.facts
    clear hb3
    go_wp2_with fail
    refine bodyPost_ret (v := tmV (.mk t.kind t.name t.other t.n t.ty t.res t.args) tp tc rp rc p c) ?_ rfl ?_
    · rw [results_cell1 rfl]
      go_simp
      all_goals (repeat' apply And.intro) <;> rfl
    · have := (HB3.out).fin (m := 400) hbw (by have := HW.out; skip; simp only [Tm.wt]; omega)
      rw [setN9] at this
      exact this
end Go.Proofs.YtfeijijeohfpgaaGreatDoor
namespace Go.Proofs.YtfeijijeohfpgaaGreatDoor
open Go Go.RowKit
structure Lifts (w W : World) (b bx : Nat) (t : Tm) (tp : Option Addr) (tc : Nat) (rp : Option Addr) (rc : Nat) (p : Option Addr) (c : Nat) : Prop where
  cur : Cur W b
  r : W.heap[w.heap.size]? = some (.cells zero9 29 (0, 0))
  box : W.heap[bx]? = some (.cells (tmC t tp tc rp rc p c) 29 (0, 0))
  tm : TM' W (fun z => b < z ∧ z ≠ bx) t tp tc rp rc p c
  below : Below w.heap.size w W
  ltb : w.heap.size < b
  ltx : b < bx
section
variable {w W W' : World} {b bx : Nat} {t : Tm} {tp rp p : Option Addr} {tc rc c : Nat}
theorem Lifts.bxlt (h : Lifts w W b bx t tp tc rp rc p c) : bx < W.heap.size := (Array.getElem?_eq_some_iff.1 h.box).1
theorem Lifts.step (h : Lifts w W b bx t tp tc rp rc p c) (hc : Cur W' b) (hg : W.grownBy W' (some b)) : Lifts w W' b bx t tp tc rp rc p c :=
  have h1 := h.ltb
  have h2 := h.ltx
  have h3 := h.bxlt
  ⟨hc, (hg.block _ (by omega) (fun e => by have := Option.some.inj e; omega)).trans h.r, (hg.block _ h3 (fun e => by have := Option.some.inj e; omega)).trans h.box,
    h.tm.stays ⟨hg.size, fun z hz hl => hg.block z hl (fun e => by have := Option.some.inj e; omega)⟩, h.below.grown hg (by omega) (fun k hk => by cases hk; omega), h1, h2⟩
theorem Lifts.facts (h : Lifts w W b bx t tp tc rp rc p c) : Bx9 W bx t tp tc rp rc p c ∧ (∀ i, W.frozen? ⟨bx, i, none⟩ = false) ∧ (W.cell? ⟨w.heap.size, 0, none⟩ = some (.int .i64 0) ∧ W.cell? ⟨w.heap.size, 1, none⟩ = some (.string ⟨#[]⟩) ∧ W.cell? ⟨w.heap.size, 2, none⟩ = some (.string ⟨#[]⟩) ∧ W.cell? ⟨w.heap.size, 3, none⟩ = some (.int .i64 0) ∧ W.cell? ⟨w.heap.size, 4, none⟩ = some (.int .i64 0) ∧ W.cell? ⟨w.heap.size, 5, none⟩ = some (.slice none 0 0) ∧ W.cell? ⟨w.heap.size, 6, none⟩ = some (.int .i64 0) ∧ W.cell? ⟨w.heap.size, 7, none⟩ = some (.slice none 0 0) ∧ W.cell? ⟨w.heap.size, 8, none⟩ = some (.slice none 0 0)) ∧ ∀ i, W.frozen? ⟨w.heap.size, i, none⟩ = false :=
  ⟨Bx9.of h.box, unfrozen_of_blk h.box, ⟨cell_of_blk h.r 0, cell_of_blk h.r 1, cell_of_blk h.r 2, cell_of_blk h.r 3, cell_of_blk h.r 4, cell_of_blk h.r 5, cell_of_blk h.r 6, cell_of_blk h.r 7, cell_of_blk h.r 8⟩, unfrozen_of_blk h.r⟩
theorem rowm_lit {C C' : Nat → Prop} (h : TM' W C t tp tc rp rc p c) (hC : ∀ z, C z → z < W.heap.size → C' z) (hN : C' W.heap.size) : DM (W.alloc (.cells (tmC t tp tc rp rc p c) 29)) C' (tmD [t]) (.slice (some ⟨W.heap.size, 0, none⟩) 1 1) := by
  have hms := ((h.mono hC).stays (.of_below (al_below W (.cells (tmC t tp tc rp rc p c) 29)))).ms
  have hf : flatTm [t] = t.ds := by simp [flatTm]
  have hcell : ∀ i d, t.ds[i]? = some d → (W.alloc (.cells (tmC t tp tc rp rc p c) 29)).cell? ⟨W.heap.size, 0 + i, none⟩ = some ((tmC t tp tc rp rc p c).toList[i]?.getD .nilIface) := fun i d hd => by
    have hi := (List.getElem?_eq_some_iff.1 hd).1
    rw [t.ds_len] at hi
    rw [Nat.zero_add, cell_of_blk (blk_new W _) i]
    rw [← Array.getElem?_toList, List.getElem?_eq_getElem (by simpa using hi)]
    rfl
  show DM _ _ (.rows _ 9 1 (flatTm [t])) _
  rw [hf]
  exact DM.rows (fun i => (tmC t tp tc rp rc p c).toList[i]?.getD .nilIface) (by omega) (by omega) (by omega) (by rw [t.ds_len]) hN (by simp) hcell
    (fun i d hd => hms.2 i d _ hd (by
      have hi := (List.getElem?_eq_some_iff.1 hd).1
      rw [t.ds_len] at hi
      rw [List.getElem?_eq_getElem (by simpa using hi)]
      rfl))
end
def DrawsM (m : Nat) (w : World) (e : Ending) (w' : World) : Prop := ∃ v t, e = .returned v ∧ t.wt ≤ m ∧ TM w' (fun z => w.heap.size ≤ z) t v ∧ Below w.heap.size w w'
theorem Lifts.fin {w W : World} {b bx m : Nat} {t : Tm} {tp rp p : Option Addr} {tc rc c : Nat} (h : Lifts w W b bx t tp tc rp rc p c) (hm : t.wt ≤ m) : DrawsM m w (.returned (tmV t tp tc rp rc p c)) (setN W w.heap.size 0 [.int .i64 t.kind, .string t.name, .string t.other, .int .i64 t.n, .int .i64 t.ty.kind, .slice tp t.ty.args.length tc, .int .i64 t.res.kind, .slice rp t.res.args.length rc, .slice p t.args.length c]) := by
  have h1 := h.ltb
  have hb := setN_below [.int .i64 t.kind, .string t.name, .string t.other, .int .i64 t.n, .int .i64 t.ty.kind, .slice tp t.ty.args.length tc, .int .i64 t.res.kind, .slice rp t.res.args.length rc, .slice p t.args.length c] w.heap.size W w.heap.size 0 (Nat.le_refl _)
  have hst := setN_stays [.int .i64 t.kind, .string t.name, .string t.other, .int .i64 t.n, .int .i64 t.ty.kind, .slice tp t.ty.args.length tc, .int .i64 t.res.kind, .slice rp t.res.args.length rc, .slice p t.args.length c] (fun z => w.heap.size < z) W w.heap.size 0 (by simp)
  refine ⟨_, t, rfl, hm, ⟨tp, tc, rp, rc, p, c, rfl, ((h.tm.mono (C' := fun z => w.heap.size < z) (fun z hz _ => by omega)).stays hst).mono (fun z hz _ => by omega)⟩, h.below.trans (hb.mono (Nat.le_refl _))⟩

end Go.Proofs.YtfeijijeohfpgaaGreatDoor
namespace Go.Proofs.YtfeijijeohfpgaaGreatDoor
open Go Go.RowKit

theorem ptys_wt {f : Nat → Option (Ty × Nat)} {s : List UInt8} (hf : ∀ i t j, f i = some (t, j) → i + t.nodes ≤ j) : ∀ (es : List UInt8) (i : Nat) (ts : List Ty) (j : Nat), ptys f s es i = some (ts, j) → i + nodesS ts ≤ j
  | [], i, ts, j, h => by
    simp only [ptys, Option.some.injEq, Prod.mk.injEq] at h
    obtain ⟨rfl, rfl⟩ := h
    simp [nodesS]
  | e :: es, i, ts, j, h => by
    simp only [ptys] at h
    cases h1 : f i with
    | none => rw [h1] at h; cases h
    | some r =>
      obtain ⟨t, k⟩ := r
      rw [h1] at h
      dsimp only at h
      split at h
      · cases h2 : ptys f s es (k + 1) with
        | none => rw [h2] at h; cases h
        | some r2 =>
          obtain ⟨us, l⟩ := r2
          rw [h2] at h
          simp only [Option.map_some, Option.some.injEq, Prod.mk.injEq] at h
          obtain ⟨rfl, rfl⟩ := h
          have a := hf _ _ _ h1
          have b := ptys_wt hf _ _ _ _ h2
          simp only [nodesS]
          omega
      · cases h
theorem pty_wt (s : List UInt8) : ∀ (k i : Nat) (t : Ty) (j : Nat), pty s k i = some (t, j) → i + t.nodes ≤ j
  | 0, i, t, j, h => by cases h
  | k + 1, i, t, j, h => by
    have two : ∀ (kd : Int) (es : List UInt8), (ptys (pty s k) s es (i + 1)).map (fun r => (Ty.mk kd r.1, r.2)) = some (t, j) → i + t.nodes ≤ j := by
      intro kd es h
      cases h2 : ptys (pty s k) s es (i + 1) with
      | none => rw [h2] at h; cases h
      | some r =>
        rw [h2] at h
        simp only [Option.map_some, Option.some.injEq, Prod.mk.injEq] at h
        obtain ⟨rfl, rfl⟩ := h
        have := ptys_wt (pty_wt s k) _ _ _ _ h2
        simp only [Ty.nodes]
        omega
    unfold pty at h
    split at h
    · simp only [Option.some.injEq, Prod.mk.injEq] at h
      obtain ⟨rfl, rfl⟩ := h
      simp [Ty.nodes, nodesS]
    · split at h
      · simp only [Option.some.injEq, Prod.mk.injEq] at h
        obtain ⟨rfl, rfl⟩ := h
        simp [Ty.nodes, nodesS]
      · split at h
        · exact two 3 _ h
        · split at h
          · exact two 4 _ h
          · cases h
theorem pts_wt {f : Nat → Option (Tm × Nat)} {s : List UInt8} (hf : ∀ i t j, f i = some (t, j) → i + t.wt ≤ j) : ∀ (es : List UInt8) (i : Nat) (ts : List Tm) (j : Nat), pts f s es i = some (ts, j) → i + wtS ts ≤ j
  | [], i, ts, j, h => by
    simp only [pts, Option.some.injEq, Prod.mk.injEq] at h
    obtain ⟨rfl, rfl⟩ := h
    simp [wtS]
  | e :: es, i, ts, j, h => by
    simp only [pts] at h
    cases h1 : f i with
    | none => rw [h1] at h; cases h
    | some r =>
      obtain ⟨t, k⟩ := r
      rw [h1] at h
      dsimp only at h
      split at h
      · cases h2 : pts f s es (k + 1) with
        | none => rw [h2] at h; cases h
        | some r2 =>
          obtain ⟨us, l⟩ := r2
          rw [h2] at h
          simp only [Option.map_some, Option.some.injEq, Prod.mk.injEq] at h
          obtain ⟨rfl, rfl⟩ := h
          have a := hf _ _ _ h1
          have b := pts_wt hf _ _ _ _ h2
          simp only [wtS]
          omega
      · cases h
theorem pmap_wt {f : Nat → Option (Tm × Nat)} {s es : List UInt8} (hf : ∀ i t j, f i = some (t, j) → i + t.wt ≤ j) {i j : Nat} {t : Tm} {g : List Tm → Tm} {m : Nat} (hg : ∀ ts, (g ts).wt ≤ m + wtS ts)
    (h : (pts f s es i).map (fun r => (g r.1, r.2)) = some (t, j)) : i + t.wt ≤ j + m := by
  cases h2 : pts f s es i with
  | none => rw [h2] at h; cases h
  | some r =>
    rw [h2] at h
    simp only [Option.map_some, Option.some.injEq, Prod.mk.injEq] at h
    obtain ⟨rfl, rfl⟩ := h
    have := pts_wt hf _ _ _ _ h2
    have := hg r.1
    omega
theorem sz_list (l : List UInt8) : (⟨l.toArray⟩ : ByteArray).size = l.length := by
  show l.toArray.size = _
  simp
theorem mkT_wt (k : Int) (a : List UInt8) (n : Int) (ts : List Tm) : (mkT k a n ts).wt = a.length + wtS ts := by
  show (⟨a.toArray⟩ : ByteArray).size + 0 + 0 + 0 + wtS ts = _
  rw [sz_list]
  omega
theorem mk_wt (k : Int) (a b : List UInt8) (n : Int) (ty res : Ty) (ts : List Tm) : (Tm.mk k ⟨a.toArray⟩ ⟨b.toArray⟩ n ty res ts).wt = a.length + b.length + nodesS ty.args + nodesS res.args + wtS ts := by
  show (⟨a.toArray⟩ : ByteArray).size + (⟨b.toArray⟩ : ByteArray).size + nodesS ty.args + nodesS res.args + wtS ts = _
  rw [sz_list, sz_list]
theorem pOpen_wt {f : Nat → Option (Tm × Nat)} {s : List UInt8} (hf : ∀ i t j, f i = some (t, j) → i + t.wt ≤ j) {i j : Nat} {t : Tm} (h : pOpen s f i = some (t, j)) : i + t.wt ≤ j + 1 := by
  have ty1 : ∀ (k i j : Nat) (u : Ty), pty s k i = some (u, j) → i + 1 + nodesS u.args ≤ j := fun k i j u h => by
    have := pty_wt s _ _ _ _ h
    rw [u.nodes_eq] at this
    omega
  unfold pOpen at h
  split at h
  · unfold pLam at h
    split at h
    · split at h
      · cases h
      · next ty j1 hp =>
        split at h
        · have a := ty1 _ _ _ _ hp
          have b := pmap_wt hf (m := (word s (i + 1)).length + nodesS ty.args) (fun ts => by rw [mk_wt _ _ []]; simp [nodesS, Ty.args]) h
          omega
        · cases h
    · cases h
  · split at h
    · unfold pLet at h
      split at h
      · have b := pmap_wt hf (m := (word s (i + 4)).length) (fun ts => by rw [mkT_wt]; exact Nat.le_refl _) h
        omega
      · cases h
    · split at h
      · unfold pRec at h
        split at h
        · unfold pRec2 at h
          split at h
          · split at h
            · cases h
            · next ty j1 hp =>
              split at h
              · split at h
                · cases h
                · next res j2 hp2 =>
                  split at h
                  · have a := ty1 _ _ _ _ hp
                    have a2 := ty1 _ _ _ _ hp2
                    have b := pmap_wt hf (fun ts => by rw [mk_wt]; exact Nat.le_refl _) h
                    omega
                  · cases h
              · cases h
          · cases h
        · cases h
      · split at h
        · have b := pmap_wt hf (m := 0) (fun ts => by rw [mkT_wt]; simp) h
          omega
        · split at h
          · have b := pmap_wt hf (m := 0) (fun ts => by rw [mkT_wt]; simp) h
            omega
          · split at h
            · have b := pmap_wt hf (m := 0) (fun ts => by rw [mkT_wt]; simp) h
              omega
            · split at h
              · have b := pmap_wt hf (m := 1) (fun ts => by rw [mkT_wt]; simp) h
                omega
              · split at h
                · cases h
                · next x j1 hx =>
                  have a := hf _ _ _ hx
                  unfold pRest at h
                  split at h
                  · have b := pmap_wt hf (g := fun ts => mkT 7 [] 0 (x :: ts)) (m := 1 + x.wt) (fun ts => by show (mkT 7 [] 0 (x :: ts)).wt ≤ _; rw [mkT_wt]; show 0 + (1 + x.wt + wtS ts) ≤ _; omega) h
                    omega
                  · split at h
                    · cases h
                    · next c hc =>
                      split at h
                      · have b := pmap_wt hf (g := fun ts => mkT 4 [c] 0 (x :: ts)) (m := 2 + x.wt) (fun ts => by show (mkT 4 [c] 0 (x :: ts)).wt ≤ _; rw [mkT_wt]; show 1 + (1 + x.wt + wtS ts) ≤ _; omega) h
                        omega
                      · cases h
theorem pTm_wt (s : List UInt8) : ∀ (D i : Nat) (t : Tm) (j : Nat), pTm s D i = some (t, j) → i + t.wt ≤ j
  | 0, i, t, j, h => by cases h
  | D + 1, i, t, j, h => by
    have hf := pTm_wt s D
    unfold pTm at h
    split at h
    · cases h
    · split at h
      · simp only [Option.some.injEq, Prod.mk.injEq] at h
        obtain ⟨rfl, rfl⟩ := h
        rw [mkT_wt]; simp [wtS]
      · split at h
        · simp only [Option.some.injEq, Prod.mk.injEq] at h
          obtain ⟨rfl, rfl⟩ := h
          rw [mkT_wt]; simp [wtS]
        · split at h
          · cases h2 : pTm s D (i + 1) with
            | none => rw [h2] at h; cases h
            | some r =>
              rw [h2] at h
              simp only [Option.map_some, Option.some.injEq, Prod.mk.injEq] at h
              obtain ⟨rfl, rfl⟩ := h
              have := hf _ _ _ h2
              rw [mkT_wt]; simp only [wtS, List.length_nil]; omega
          · split at h
            · have b := pmap_wt hf (m := 0) (fun ts => by rw [mkT_wt]; simp) h
              omega
            · split at h
              · have := pOpen_wt hf h
                omega
              · split at h
                · split at h
                  · simp only [Option.some.injEq, Prod.mk.injEq] at h
                    obtain ⟨rfl, rfl⟩ := h
                    rw [mkT_wt]; simp [wtS]
                  · cases h
                · simp only [Option.some.injEq, Prod.mk.injEq] at h
                  obtain ⟨rfl, rfl⟩ := h
                  rw [mkT_wt]; simp [wtS]
end Go.Proofs.YtfeijijeohfpgaaGreatDoor
namespace Go.Proofs.YtfeijijeohfpgaaGreatDoor
open Go Go.RowKit

end Go.Proofs.YtfeijijeohfpgaaGreatDoor
namespace Go.Proofs.YtfeijijeohfpgaaGreatDoor
open Go Go.RowKit

end Go.Proofs.YtfeijijeohfpgaaGreatDoor
namespace Go.Proofs.YtfeijijeohfpgaaGreatDoor
open Go Go.RowKit

end Go.Proofs.YtfeijijeohfpgaaGreatDoor
namespace Go.Proofs.YtfeijijeohfpgaaGreatDoor
open Go Go.RowKit

end Go.Proofs.YtfeijijeohfpgaaGreatDoor
namespace Go.Proofs.YtfeijijeohfpgaaGreatDoor
open Go Go.RowKit

end Go.Proofs.YtfeijijeohfpgaaGreatDoor
namespace Go.Proofs.YtfeijijeohfpgaaGreatDoor
open Go Go.RowKit

end Go.Proofs.YtfeijijeohfpgaaGreatDoor
