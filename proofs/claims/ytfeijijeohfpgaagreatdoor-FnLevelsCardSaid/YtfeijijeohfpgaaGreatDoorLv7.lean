/-
  Several texts of the proof in one (each says below what it holds): Gany Ggen Gend TmText TmShape.
-/
import Derived.Test.YtfeijijeohfpgaaGreatDoorLv6
import Derived.Test.YtfeijijeohfpgaaGreatDoorLv4
import Derived.Test.YtfeijijeohfpgaaGreatDoorLv2
import Derived.Lib.Join
import Derived.Lib.ItoaLen
set_option linter.unusedVariables false
set_option linter.unusedSimpArgs false
namespace Go.Proofs.YtfeijijeohfpgaaGreatDoor
open Go Go.RowKit

theorem tt_mono {w : World} {C C' : Nat → Prop} {t : Ty} {v : Value} (h : TT w C t v) (hC : ∀ z, C z → z < w.heap.size → C' z) : TT w C' t v := by
  obtain ⟨s, h1, h2⟩ := h
  exact ⟨s, h1, h2.mono hC⟩
theorem gen_longer {b d : Nat} {D : Int} (h : GenH b d D) (C : Nat → Prop) (L : List Tg) (x : Tg) (a : Addr) (c : Nat) (t : Ty) (vt : Value) (n : Int) (W : World) (hcx : CX W C (L ++ [x]) (.slice (some a) (L.length + 1) c)) (ht : TT W C t vt) (hf : t.form = true) (hn : t.nodes + d ≤ 100) (hL : L.length + 1 + d ≤ 1000) (hCb : ∀ z, C z → z ≠ b) (hc : Cur W b) :
    Calls Tryz.prog 92 #[.pointer (some ⟨b, 0, none⟩), .slice (some a) (L.length + 1) c, vt, .int .i64 n, .int .i64 D] W (GenT (gB d) b W) := by
  have e : (L ++ [x]).length = L.length + 1 := by simp
  have := h C (L ++ [x]) a c t vt n W (by rw [e]; exact hcx) ht hf hn (by omega) hCb hc
  rwa [e] at this

set_option maxRecDepth 100000 in
set_option maxHeartbeats 16000000 in
theorem any_step {C : Nat → Prop} {L : List Tg} {a : Addr} {c : Nat} {t : Ty} {vt : Value} {w : World} (b d : Nat) (D n : Int) (hD0 : 2 ≤ D) (hD : D ≤ 9) (hgd : gB d ≤ 100000) (IH : GenH b d (D - 1)) (h : CX w C L (.slice (some a) L.length c)) (ht : TT w C t vt) (hf : t.form = true) (hd : d ≤ 90) (htn : t.nodes + d + 1 ≤ 100) (hL : L.length + d + 1 ≤ 1000) (hCb : ∀ z, C z → z ≠ b) (hc : Cur w b) :
    Calls Tryz.prog 144 #[.pointer (some ⟨b, 0, none⟩), .slice (some a) L.length c, vt, .int .i64 n, .int .i64 D] w (GenT (gB (d + 1)) b w) := by
  have hwr : IntKind.i64.wrap (D - 1) = D - 1 := IntWalk.i64_in _ (by omega)
  obtain ⟨st, rfl, hst0⟩ := ht
  obtain ⟨pt, ct, rfl⟩ := hst0.form
  have hbw := hc.lt
  have hf4 : (Ty.mk 4 [t]).form = true := (form_mk 4 [t]).2 ⟨by simp [formS, hf], Or.inr (Or.inr ⟨rfl, rfl⟩)⟩
  have HN4 : Hid ((Ty.mk 4 [t]).nodes = 1 + t.nodes) := Lib.hid (by simp [Ty.nodes, nodesS])
  have HMT : Hid (t.nodes = 1 + nodesS t.args) := Lib.hid t.nodes_eq
  obtain ⟨kk, hkk⟩ : ∃ kk, t.kind = kk := ⟨_, rfl⟩
  rw [hkk]
  have HKK := Lib.hid hkk
  clear hkk
  obtain ⟨wl, hwl, hsz, hbl, qt, qr⟩ := box_new2 w #[.int .i64 kk, .slice pt t.args.length ct] zero9 26 29
  have HSL : Hid (Slot w b (w.heap.size + 1) wl) := Lib.hid ⟨hc.below hbl, grown_below (grownB_refl w _) (Nat.le_refl _) hbl, qr, by omega, hbw⟩
  have HH := Lib.hid h
  have HIH := Lib.hid IH
  have HT00 := Lib.hid hst0
  have HF := Lib.hid (fun (W : World) (hW : wl.grownBy W (some b)) => show W.cell? ⟨w.heap.size, 0, none⟩ = some (.int .i64 kk) ∧ W.cell? ⟨w.heap.size, 1, none⟩ = some (.slice pt t.args.length ct) from by
    have ci := (hW.block w.heap.size (by omega) (fun e => by have := Option.some.inj e; omega)).trans qt
    exact ⟨cell_of_blk ci 0, cell_of_blk ci 1⟩)
  have HST := Lib.hid (fun (W : World) (hW : wl.grownBy W (some b)) => grown_stays (C := C) (grownBy_trans (grown_below (grownB_refl w (some b)) (Nat.le_refl _) hbl) hW) hCb)
  have hp3 := pickS_litG [⟨#[120]⟩, ⟨#[121]⟩, ⟨#[122]⟩] 3 b wl #[.string ⟨#[120]⟩, .string ⟨#[121]⟩, .string ⟨#[122]⟩] rfl (by decide) (by decide) rfl HSL.out.cur
  rw [hsz] at hp3
  have HP3 := Lib.hid hp3
  have HWL := Lib.hid hwl
  have HSZ := Lib.hid hsz
  clear hwl hsz hbl qt qr hc h IH hp3 hst0
  go_enter Tryz.func144, Tryz.ntmps144
  go_wp2_with fail
  rw [show (w.alloc (.cells #[.int .i64 kk, .slice pt t.args.length ct] 26)).alloc (.cells zero9 29) = wl from HWL.out]
  refine HP3.out.mono ?_
  rintro e w3 ⟨nm, hnm, rfl, hc3, hg3⟩
  have HNM : Hid (nm.size ≤ 1) := Lib.hid (by simp at hnm; rcases hnm with rfl | rfl | rfl <;> decide)
  have HS3 := Lib.hid (HSL.out.step hc3 hg3)
  have HG3 : Hid (wl.grownBy w3 (some b)) := Lib.hid hg3
  clear hnm hc3 hg3
  go_wp2_with fail
  refine (below_any b 5 w3 (by decide) (by decide) HS3.out.cur).mono ?_
  rintro e w4 ⟨x, hx, rfl, hc4, hg4⟩
  have HS4 := Lib.hid (HS3.out.step hc4 hg4)
  have HG4 : Hid (wl.grownBy w4 (some b)) := Lib.hid (grownBy_trans HG3.out hg4)
  have HL4 : Hid (w.heap.size + 2 ≤ w4.heap.size) := Lib.hid (by have h1 := hg4.size; have h2 := HG3.out.size; have h3 := HSZ.out; omega)
  clear hc4 hg4
  rcases (show x = 0 ∨ x = 1 ∨ x = 2 ∨ x = 3 ∨ x = 4 by omega) with rfl | rfl | rfl | rfl | rfl
  · go_wp2_with fail
    have HSD := Lib.hid (HS4.out.below (Below.refl _ w4).drew)
    have HGD : Hid (wl.grownBy w4.drew (some b)) := Lib.hid (grown_drewB HG4.out)
    have FL0 := Lib.hid trivial
    have FL1 := Lib.hid trivial
    have FL2 := Lib.hid trivial
    have FL3 := Lib.hid trivial
    have FL4 := Lib.hid trivial
    go_region_held3 (fun w' => w'.cell? ⟨w.heap.size, 0, none⟩ = some (.int .i64 kk) ∧ w'.cell? ⟨w.heap.size, 1, none⟩ = some (.slice pt t.args.length ct))
      (first
        | with_reducible exact HF.out _ HGD.out
        | with_reducible exact HF.out _ HG_u1.out
        | with_reducible exact HF.out _ HG_u2.out
        | with_reducible exact HF.out _ HG_u3.out
        | with_reducible exact HF.out _ HG_u4.out
        | with_reducible exact HF.out _ HG_uz.out
        | with_reducible exact ⟨keep9 (HF.out _ HG_uz.out).1 (by omega), keep9 (HF.out _ HG_uz.out).2 (by omega)⟩
        | with_reducible exact HF.out (World.alloc u4 _) (grown_below HG_u4.out HG_u4.out.size (al_below u4 _))
        | (go_keep; done))
      (first
        | (clear FL0
           go_at_call 89
           refine (l3Bool_any _).mono ?_
           rintro e u1 ⟨rfl, hb⟩
           have HS_u1 := Lib.hid (HSD.out.below hb)
           have HG_u1 : Hid (wl.grownBy u1 (some b)) := Lib.hid (grown_below HGD.out HGD.out.size hb)
           have HL_u1 := Lib.hid hb.size
           clear  hb)
        | (clear FL1
           go_at_call 92
           refine (HIH.out C L a c (.mk 2 []) _ n u1 (HH.out.stays (HST.out _ HG_u1.out)) ⟨_, rfl, .nil _ _⟩ rfl (by show 1 + d ≤ 100; omega) (by omega) hCb HS_u1.out.cur).mono ?_
           rintro e u2 ⟨x1, v, rfl, hx, ⟨tp1, tc1, rp1, rc1, p1, c1, rfl, ht⟩, hc, hg⟩
           have HX1 := Lib.hid hx
           have HT1 := ht.mono (C' := fun z => w4.heap.size ≤ z) (fun z hz _ => Nat.le_trans (by have := HL_u1.out; have e : w4.drew.heap.size = w4.heap.size := rfl; omega) hz)
           have HS_u2 := Lib.hid (HS_u1.out.step hc hg)
           have HG_u2 : Hid (wl.grownBy u2 (some b)) := Lib.hid (grownBy_trans HG_u1.out hg)
           have HL_u2 := Lib.hid hg.size
           have HTH1 := Lib.hid HT1
           clear HT1 hx ht hc hg)
        | (clear FL2
           go_at_call 92
           have HT1 := HTH1.out
           refine (HIH.out C L a c t _ n u2 (HH.out.stays (HST.out _ HG_u2.out)) ⟨_, by rw [HKK.out], HT00.out.stays (HST.out _ HG_u2.out)⟩ hf (by omega) (by omega) hCb HS_u2.out.cur).mono ?_
           rintro e u3 ⟨x2, v, rfl, hx, ⟨tp2, tc2, rp2, rc2, p2, c2, rfl, ht⟩, hc, hg⟩
           have HX2 := Lib.hid hx
           have HT2 := ht.mono (C' := fun z => w4.heap.size ≤ z) (fun z hz _ => Nat.le_trans (by have := HL_u1.out; have := HL_u2.out; have e : w4.drew.heap.size = w4.heap.size := rfl; omega) hz)
           have HS_u3 := Lib.hid (HS_u2.out.step hc hg)
           have HG_u3 : Hid (wl.grownBy u3 (some b)) := Lib.hid (grownBy_trans HG_u2.out hg)
           have HL_u3 := Lib.hid hg.size
           have HT1 := HT1.stays (grown_stays hg (fun z hz => by have hz' : w4.heap.size ≤ z := hz; have := HS4.out.lt; have := HS4.out.lo; omega))
           have HTH1 := Lib.hid HT1
           have HTH2 := Lib.hid HT2
           clear HT1 HT2 hx ht hc hg)
        | (clear FL3
           go_at_call 92
           have HT1 := HTH1.out
           have HT2 := HTH2.out
           refine (HIH.out C L a c t _ n u3 (HH.out.stays (HST.out _ HG_u3.out)) ⟨_, by rw [HKK.out], HT00.out.stays (HST.out _ HG_u3.out)⟩ hf (by omega) (by omega) hCb HS_u3.out.cur).mono ?_
           rintro e u4 ⟨x3, v, rfl, hx, ⟨tp3, tc3, rp3, rc3, p3, c3, rfl, ht⟩, hc, hg⟩
           have HX3 := Lib.hid hx
           have HT3 := ht.mono (C' := fun z => w4.heap.size ≤ z) (fun z hz _ => Nat.le_trans (by have := HL_u1.out; have := HL_u2.out; have := HL_u3.out; have e : w4.drew.heap.size = w4.heap.size := rfl; omega) hz)
           have HS_u4 := Lib.hid (HS_u3.out.step hc hg)
           have HG_u4 : Hid (wl.grownBy u4 (some b)) := Lib.hid (grownBy_trans HG_u3.out hg)
           have HL_u4 := Lib.hid hg.size
           have HT1 := HT1.stays (grown_stays hg (fun z hz => by have hz' : w4.heap.size ≤ z := hz; have := HS4.out.lt; have := HS4.out.lo; omega))
           have HT2 := HT2.stays (grown_stays hg (fun z hz => by have hz' : w4.heap.size ≤ z := hz; have := HS4.out.lt; have := HS4.out.lo; omega))
           have HTH1 := Lib.hid HT1
           have HTH2 := Lib.hid HT2
           have HTH3 := Lib.hid HT3
           clear HT1 HT2 HT3 hx ht hc hg)
        | (clear FL4
           go_at_call 149
           have HT1 := HTH1.out
           have HT2 := HTH2.out
           have HT3 := HTH3.out
           have hal := al_below u4 (.cells ([Value.int .i64 x1.kind, .string x1.name, .string x1.other, .int .i64 x1.n, .int .i64 x1.ty.kind, .slice tp1 x1.ty.args.length tc1, .int .i64 x1.res.kind, .slice rp1 x1.res.args.length rc1, .slice p1 x1.args.length c1, Value.int .i64 x2.kind, .string x2.name, .string x2.other, .int .i64 x2.n, .int .i64 x2.ty.kind, .slice tp2 x2.ty.args.length tc2, .int .i64 x2.res.kind, .slice rp2 x2.res.args.length rc2, .slice p2 x2.args.length c2, Value.int .i64 x3.kind, .string x3.name, .string x3.other, .int .i64 x3.n, .int .i64 x3.ty.kind, .slice tp3 x3.ty.args.length tc3, .int .i64 x3.res.kind, .slice rp3 x3.res.args.length rc3, .slice p3 x3.args.length c3]).toArray 29)
           have hms := (ms_cons (HT1.stays (.of_below hal)) (ms_cons (HT2.stays (.of_below hal)) (ms_one (HT3.stays (.of_below hal)))))
           try simp only [List.cons_append, List.nil_append] at hms
           refine (node_any (C := fun z => w4.heap.size ≤ z) (ts := [x1, x2, x3]) 5 (dm_lit (ts := [x1, x2, x3]) (blk_new u4 _) hms (by have := HL_u1.out; have := HL_u2.out; have := HL_u3.out; have := HL_u4.out; have e : w4.drew.heap.size = w4.heap.size := rfl; omega) (by simp) (by simp)) (by have := HX1.out; have := HX2.out; have := HX3.out; simp only [wtS]; omega)).mono ?_
           rintro e uz ⟨tp, tc, rp, rc, p, cc, xs, rfl, hN, hb⟩
           have HN := Lib.hid hN
           have HS_uz := Lib.hid ((HS_u4.out.below hal).below hb)
           have HG_uz : Hid (wl.grownBy uz (some b)) := Lib.hid (grown_below (grown_below HG_u4.out HG_u4.out.size hal) (Nat.le_trans HG_u4.out.size hal.size) hb)
           have HAL := Lib.hid hal.size
           obtain ⟨⟨r0, r1, r2, r3, r4, r5, r6, r7, r8⟩, rz⟩ := zero9_facts HS_uz.out.box
           clear hN hb hal hms HT1 HT2 HT3))
    go_wp2_with fail
    refine bodyPost_ret (v := tmV (.mk 5 ⟨#[]⟩ ⟨#[]⟩ 0 zTy zTy [x1, x2, x3]) tp tc rp rc p cc) ?_ rfl ?_
    · rw [results_cell1 rfl]
      go_simp
      all_goals (repeat' apply And.intro) <;> rfl
    · refine HS_uz.out.fin9 ?_ (HN.out.tm.mono (fun z hz _ => ?_))
      · have h1 := HX1.out
        have h2 := HX2.out
        have h3 := HX3.out
        have e1 : (⟨#[]⟩ : ByteArray).size = 0 := rfl
        have e2 : nodesS zTy.args = 0 := rfl
        simp only [Tm.wt, wtS, gB, e1, e2]
        omega
      · have h1 := HS_u4.out.lt
        have h2 := HAL.out
        have hz' : _ ≤ z := hz
        have h3 := HS_u4.out.lo
        exact ⟨by omega, by omega⟩
  · go_wp2_with fail
    refine (pick_any b n w4 HS4.out.cur).mono ?_
    rintro e w5 ⟨tq, vo, rfl, hfo, hno, ⟨so, rfl, hso⟩, hc5, hg5⟩
    obtain ⟨po, co, rfl⟩ := hso.form
    obtain ⟨wo, hwo, hszo, hblo, qo⟩ := box_new w5 #[.int .i64 tq.kind, .slice po tq.args.length co] 26
    have HWO := Lib.hid hwo
    have HSO := Lib.hid ((HS4.out.step hc5 hg5).below hblo)
    have HG5 : Hid (wl.grownBy w5 (some b)) := Lib.hid (grownBy_trans HG4.out hg5)
    have HL5 : Hid (w.heap.size + 2 ≤ w5.heap.size) := Lib.hid (by have h1 := hg5.size; have h2 := HL4.out; omega)
    have HGO : Hid (wl.grownBy wo (some b)) := Lib.hid (grown_below HG5.out HG5.out.size hblo)
    have HFO := Lib.hid (fun (W : World) (hW : wo.grownBy W (some b)) => show W.cell? ⟨w.heap.size, 0, none⟩ = some (.int .i64 kk) ∧ W.cell? ⟨w.heap.size, 1, none⟩ = some (.slice pt t.args.length ct) ∧ W.cell? ⟨w5.heap.size, 0, none⟩ = some (.int .i64 tq.kind) ∧ W.cell? ⟨w5.heap.size, 1, none⟩ = some (.slice po tq.args.length co) from by
      have h1 := HF.out W (grownBy_trans HGO.out hW)
      have ci := (hW.block w5.heap.size (by omega) (fun e => by have := Option.some.inj e; have := HL5.out; omega)).trans qo
      exact ⟨h1.1, h1.2, cell_of_blk ci 0, cell_of_blk ci 1⟩)
    have HSTO := Lib.hid (fun (W : World) (hW : wo.grownBy W (some b)) => HST.out W (grownBy_trans HGO.out hW))
    have HTO := Lib.hid (fun (W : World) (hW : wo.grownBy W (some b)) => (hso.stays (.of_below hblo)).stays (grown_stays (C := fun z => w4.heap.size ≤ z) hW (fun z hz => by have hz' : w4.heap.size ≤ z := hz; have := HL4.out; omega)))
    have HNO : Hid (tq.nodes ≤ 3) := Lib.hid hno
    have hlo : w.heap.size + 2 ≤ w5.heap.size := HL5.out
    have HL4O : Hid (w4.heap.size ≤ wo.heap.size) := Lib.hid (Nat.le_trans hg5.size hblo.size)
    have HMO : Hid (tq.nodes = 1 + nodesS tq.args) := Lib.hid tq.nodes_eq
    clear hc5 hg5 hwo hszo hblo qo hso hno
    go_wp2_with fail
    rw [show w5.alloc (.cells #[.int .i64 tq.kind, .slice po tq.args.length co] 26) = wo from HWO.out]
    have HSD := Lib.hid (HSO.out.below (Below.refl _ wo).drew)
    have HGD : Hid (wo.grownBy wo.drew (some b)) := Lib.hid (grown_drewB (grownB_refl wo _))
    have FL0 := Lib.hid trivial
    have FL1 := Lib.hid trivial
    have FL2 := Lib.hid trivial
    have FL3 := Lib.hid trivial
    go_region_held3 (fun w' => w'.cell? ⟨w.heap.size, 0, none⟩ = some (.int .i64 kk) ∧ w'.cell? ⟨w.heap.size, 1, none⟩ = some (.slice pt t.args.length ct) ∧ w'.cell? ⟨w5.heap.size, 0, none⟩ = some (.int .i64 tq.kind) ∧ w'.cell? ⟨w5.heap.size, 1, none⟩ = some (.slice po tq.args.length co))
      (first
        | with_reducible exact HFO.out _ HGD.out
        | with_reducible exact HFO.out _ HG_u1.out
        | with_reducible exact HFO.out _ HG_u2.out
        | with_reducible exact HFO.out _ HG_u3.out
        | with_reducible exact HFO.out _ HG_uz.out
        | with_reducible exact ⟨keep9 (HFO.out _ HG_uz.out).1 (by omega), keep9 (HFO.out _ HG_uz.out).2.1 (by omega), keep9 (HFO.out _ HG_uz.out).2.2.1 (by omega), keep9 (HFO.out _ HG_uz.out).2.2.2 (by omega)⟩
        | (go_keep; done))
      (first
        | (clear FL0
           go_at_call 92
           refine (HIH.out (fun z => C z ∨ w4.heap.size ≤ z) L a c tq _ n wo.drew ((HH.out.stays (HSTO.out _ HGD.out)).mono (C' := fun z => C z ∨ w4.heap.size ≤ z) (fun z hz _ => Or.inl hz)) ⟨_, rfl, (HTO.out _ HGD.out).mono (fun z hz _ => Or.inr hz)⟩ hfo (by have := HNO.out; omega) (by omega) (fun z hz => Or.elim hz (hCb z) (fun hy => by have hy' : w4.heap.size ≤ z := hy; have := HL4.out; omega)) HSD.out.cur).mono ?_
           rintro e u1 ⟨x1, v, rfl, hx, ⟨tp1, tc1, rp1, rc1, p1, c1, rfl, ht⟩, hc, hg⟩
           have HX1 := Lib.hid hx
           have HT1 := ht.mono (C' := fun z => wo.heap.size ≤ z) (fun z hz _ => Nat.le_trans (by exact Nat.le_refl _) hz)
           have HS_u1 := Lib.hid (HSD.out.step hc hg)
           have HG_u1 : Hid (wo.grownBy u1 (some b)) := Lib.hid (grownBy_trans HGD.out hg)
           have HL_u1 := Lib.hid hg.size
           have HTH1 := Lib.hid HT1
           clear HT1 hx ht hc hg)
        | (clear FL1
           go_at_call 147
           have HT1 := HTH1.out
           refine (with_any (C := (fun z => C z ∨ w4.heap.size ≤ z)) (t := tq) nm n ((HH.out.stays (HSTO.out _ HG_u1.out)).mono (C' := fun z => C z ∨ w4.heap.size ≤ z) (fun z hz _ => Or.inl hz)) ⟨_, rfl, (HTO.out _ HG_u1.out).mono (fun z hz _ => Or.inr hz)⟩ (by omega) (by have := HNO.out; have := HMO.out; omega) (by have := HNM.out; omega)).mono ?_
           rintro e u2 ⟨a2, c2, rfl, hcx, hb⟩
           have HS_u2 := Lib.hid (HS_u1.out.below hb)
           have HG_u2 : Hid (wo.grownBy u2 (some b)) := Lib.hid (grown_below HG_u1.out HG_u1.out.size hb)
           have HL_u2 := Lib.hid hb.size
           have hup : w4.heap.size ≤ u1.heap.size := by have := HL_u1.out; have := HL4O.out; have e : wo.drew.heap.size = wo.heap.size := rfl; omega
           have HCX : Hid (CX u2 (fun z => C z ∨ w4.heap.size ≤ z) (L ++ [⟨nm, tq, n⟩]) (.slice (some a2) (L.length + 1) c2)) := Lib.hid (hcx.mono (fun z hz _ => Or.elim hz id (fun hy => Or.inr (Nat.le_trans hup hy))))
           have HT1 := HT1.stays (.of_below hb)
           have HTH1 := Lib.hid HT1
           clear HT1 hb hcx hup)
        | (clear FL2
           go_at_call 92
           have HT1 := HTH1.out
           refine (gen_longer HIH.out (fun z => C z ∨ w4.heap.size ≤ z) L ⟨nm, tq, n⟩ a2 c2 t _ n u2 HCX.out ⟨_, by rw [HKK.out], (HT00.out.stays (HSTO.out _ HG_u2.out)).mono (fun z hz _ => Or.inl hz)⟩ hf (by omega) (by omega) (fun z hz => Or.elim hz (hCb z) (fun hy => by have hy' : w4.heap.size ≤ z := hy; have := HL4.out; omega)) HS_u2.out.cur).mono ?_
           rintro e u3 ⟨x2, v, rfl, hx, ⟨tp2, tc2, rp2, rc2, p2, c2, rfl, ht⟩, hc, hg⟩
           have HX2 := Lib.hid hx
           have HT2 := ht.mono (C' := fun z => wo.heap.size ≤ z) (fun z hz _ => Nat.le_trans (by have := HL_u1.out; have := HL_u2.out; have e : wo.drew.heap.size = wo.heap.size := rfl; omega) hz)
           have HS_u3 := Lib.hid (HS_u2.out.step hc hg)
           have HG_u3 : Hid (wo.grownBy u3 (some b)) := Lib.hid (grownBy_trans HG_u2.out hg)
           have HL_u3 := Lib.hid hg.size
           have HT1 := HT1.stays (grown_stays hg (fun z hz => by have hz' : wo.heap.size ≤ z := hz; have := HSO.out.lt; have := HSO.out.lo; omega))
           have HTH1 := Lib.hid HT1
           have HTH2 := Lib.hid HT2
           clear HT1 HT2 hx ht hc hg)
        | (clear FL3
           go_at_call 187
           have HT1 := HTH1.out
           have HT2 := HTH2.out
           refine (let_any (C := fun z => wo.heap.size ≤ z) nm (x := x1) (y := x2) ⟨_, _, _, _, _, _, rfl, HT1⟩ ⟨_, _, _, _, _, _, rfl, HT2⟩ (by have := HX1.out; have := HX2.out; omega)).mono ?_
           rintro e uz ⟨tp, tc, rp, rc, p, cc, xs, rfl, hN, hb⟩
           have HN := Lib.hid hN
           have HS_uz := Lib.hid (HS_u3.out.below hb)
           have HG_uz : Hid (wo.grownBy uz (some b)) := Lib.hid (grown_below HG_u3.out HG_u3.out.size hb)
           have HAL : Hid (u3.heap.size ≤ u3.heap.size) := Lib.hid (Nat.le_refl _)
           obtain ⟨⟨r0, r1, r2, r3, r4, r5, r6, r7, r8⟩, rz⟩ := zero9_facts HS_uz.out.box
           clear hN hb HT1 HT2))
    go_wp2_with fail
    refine bodyPost_ret (v := tmV (.mk 8 nm ⟨#[]⟩ 0 zTy zTy [x1, x2]) tp tc rp rc p cc) ?_ rfl ?_
    · rw [results_cell1 rfl]
      go_simp
      all_goals (repeat' apply And.intro) <;> rfl
    · refine HS_uz.out.fin9 ?_ (HN.out.tm.mono (fun z hz _ => ?_))
      · have h0 := HNM.out
        have h1 := HX1.out
        have h2 := HX2.out
        have e1 : (⟨#[]⟩ : ByteArray).size = 0 := rfl
        have e2 : nodesS zTy.args = 0 := rfl
        simp only [Tm.wt, wtS, gB, e1, e2]
        omega
      · have h1 := HS_u3.out.lt
        have h2 := HAL.out
        have hz' : _ ≤ z := hz
        have h3 := HS_u3.out.lo
        exact ⟨by omega, by omega⟩
  · go_wp2_with fail
    refine (pick_any b n w4 HS4.out.cur).mono ?_
    rintro e w5 ⟨tq, vo, rfl, hfo, hno, ⟨so, rfl, hso⟩, hc5, hg5⟩
    obtain ⟨po, co, rfl⟩ := hso.form
    obtain ⟨wo, hwo, hszo, hblo, qo⟩ := box_new w5 #[.int .i64 tq.kind, .slice po tq.args.length co] 26
    have HWO := Lib.hid hwo
    have HSO := Lib.hid ((HS4.out.step hc5 hg5).below hblo)
    have HG5 : Hid (wl.grownBy w5 (some b)) := Lib.hid (grownBy_trans HG4.out hg5)
    have HL5 : Hid (w.heap.size + 2 ≤ w5.heap.size) := Lib.hid (by have h1 := hg5.size; have h2 := HL4.out; omega)
    have HGO : Hid (wl.grownBy wo (some b)) := Lib.hid (grown_below HG5.out HG5.out.size hblo)
    have HFO := Lib.hid (fun (W : World) (hW : wo.grownBy W (some b)) => show W.cell? ⟨w.heap.size, 0, none⟩ = some (.int .i64 kk) ∧ W.cell? ⟨w.heap.size, 1, none⟩ = some (.slice pt t.args.length ct) ∧ W.cell? ⟨w5.heap.size, 0, none⟩ = some (.int .i64 tq.kind) ∧ W.cell? ⟨w5.heap.size, 1, none⟩ = some (.slice po tq.args.length co) from by
      have h1 := HF.out W (grownBy_trans HGO.out hW)
      have ci := (hW.block w5.heap.size (by omega) (fun e => by have := Option.some.inj e; have := HL5.out; omega)).trans qo
      exact ⟨h1.1, h1.2, cell_of_blk ci 0, cell_of_blk ci 1⟩)
    have HSTO := Lib.hid (fun (W : World) (hW : wo.grownBy W (some b)) => HST.out W (grownBy_trans HGO.out hW))
    have HTO := Lib.hid (fun (W : World) (hW : wo.grownBy W (some b)) => (hso.stays (.of_below hblo)).stays (grown_stays (C := fun z => w4.heap.size ≤ z) hW (fun z hz => by have hz' : w4.heap.size ≤ z := hz; have := HL4.out; omega)))
    have HNO : Hid (tq.nodes ≤ 3) := Lib.hid hno
    have hlo : w.heap.size + 2 ≤ w5.heap.size := HL5.out
    have HL4O : Hid (w4.heap.size ≤ wo.heap.size) := Lib.hid (Nat.le_trans hg5.size hblo.size)
    have HMO : Hid (tq.nodes = 1 + nodesS tq.args) := Lib.hid tq.nodes_eq
    clear hc5 hg5 hwo hszo hblo qo hso hno
    go_wp2_with fail
    rw [show w5.alloc (.cells #[.int .i64 tq.kind, .slice po tq.args.length co] 26) = wo from HWO.out]
    have HSD := Lib.hid (HSO.out.below (Below.refl _ wo).drew)
    have HGD : Hid (wo.grownBy wo.drew (some b)) := Lib.hid (grown_drewB (grownB_refl wo _))
    have FL0 := Lib.hid trivial
    have FL1 := Lib.hid trivial
    have FL2 := Lib.hid trivial
    have FL3 := Lib.hid trivial
    have FL4 := Lib.hid trivial
    go_region_held3 (fun w' => w'.cell? ⟨w.heap.size, 0, none⟩ = some (.int .i64 kk) ∧ w'.cell? ⟨w.heap.size, 1, none⟩ = some (.slice pt t.args.length ct) ∧ w'.cell? ⟨w5.heap.size, 0, none⟩ = some (.int .i64 tq.kind) ∧ w'.cell? ⟨w5.heap.size, 1, none⟩ = some (.slice po tq.args.length co))
      (first
        | with_reducible exact HFO.out _ HGD.out
        | with_reducible exact HFO.out _ HG_u1.out
        | with_reducible exact HFO.out _ HG_u2.out
        | with_reducible exact HFO.out _ HG_u3.out
        | with_reducible exact HFO.out _ HG_u4.out
        | with_reducible exact HFO.out _ HG_uz.out
        | with_reducible exact ⟨keep9 (HFO.out _ HG_uz.out).1 (by omega), keep9 (HFO.out _ HG_uz.out).2.1 (by omega), keep9 (HFO.out _ HG_uz.out).2.2.1 (by omega), keep9 (HFO.out _ HG_uz.out).2.2.2 (by omega)⟩
        | with_reducible exact HFO.out (World.alloc u4 _) (grown_below HG_u4.out HG_u4.out.size (al_below u4 _))
        | (go_keep; done))
      (first
        | (clear FL0
           go_at_call 147
           refine (with_any (C := (fun z => C z ∨ w4.heap.size ≤ z)) (t := tq) nm n ((HH.out.stays (HSTO.out _ HGD.out)).mono (C' := fun z => C z ∨ w4.heap.size ≤ z) (fun z hz _ => Or.inl hz)) ⟨_, rfl, (HTO.out _ HGD.out).mono (fun z hz _ => Or.inr hz)⟩ (by omega) (by have := HNO.out; have := HMO.out; omega) (by have := HNM.out; omega)).mono ?_
           rintro e u1 ⟨a2, c2, rfl, hcx, hb⟩
           have HS_u1 := Lib.hid (HSD.out.below hb)
           have HG_u1 : Hid (wo.grownBy u1 (some b)) := Lib.hid (grown_below HGD.out HGD.out.size hb)
           have HL_u1 := Lib.hid hb.size
           have hup : w4.heap.size ≤ wo.drew.heap.size := by  have := HL4O.out; have e : wo.drew.heap.size = wo.heap.size := rfl; omega
           have HCX : Hid (CX u1 (fun z => C z ∨ w4.heap.size ≤ z) (L ++ [⟨nm, tq, n⟩]) (.slice (some a2) (L.length + 1) c2)) := Lib.hid (hcx.mono (fun z hz _ => Or.elim hz id (fun hy => Or.inr (Nat.le_trans hup hy))))
           clear  hb hcx hup)
        | (clear FL1
           go_at_call 92
           refine (gen_longer HIH.out (fun z => C z ∨ w4.heap.size ≤ z) L ⟨nm, tq, n⟩ a2 c2 t _ n u1 HCX.out ⟨_, by rw [HKK.out], (HT00.out.stays (HSTO.out _ HG_u1.out)).mono (fun z hz _ => Or.inl hz)⟩ hf (by omega) (by omega) (fun z hz => Or.elim hz (hCb z) (fun hy => by have hy' : w4.heap.size ≤ z := hy; have := HL4.out; omega)) HS_u1.out.cur).mono ?_
           rintro e u2 ⟨x1, v, rfl, hx, ⟨tp1, tc1, rp1, rc1, p1, c1, rfl, ht⟩, hc, hg⟩
           have HX1 := Lib.hid hx
           have HT1 := ht.mono (C' := fun z => wo.heap.size ≤ z) (fun z hz _ => Nat.le_trans (by have := HL_u1.out; have e : wo.drew.heap.size = wo.heap.size := rfl; omega) hz)
           have HS_u2 := Lib.hid (HS_u1.out.step hc hg)
           have HG_u2 : Hid (wo.grownBy u2 (some b)) := Lib.hid (grownBy_trans HG_u1.out hg)
           have HL_u2 := Lib.hid hg.size
           have HTH1 := Lib.hid HT1
           clear HT1 hx ht hc hg)
        | (clear FL2
           go_at_call 146
           have HT1 := HTH1.out
           have hup := HL4O.out
           refine (lam_any (C := (fun z => C z ∨ w4.heap.size ≤ z)) nm (x := x1) (t := tq) ⟨_, rfl, (HTO.out _ HG_u2.out).mono (fun z hz _ => Or.inr hz)⟩ ⟨_, _, _, _, _, _, rfl, HT1.mono (fun z hz _ => Or.inr (Nat.le_trans hup hz))⟩ (by have := HNO.out; have := HMO.out; omega) (by have := HX1.out; omega)).mono ?_
           rintro e u3 ⟨tp3, tc3, rp3, rc3, p3, c3, xs3, rfl, hN3, hb⟩
           have hx3 : (Tm.mk 6 nm ⟨#[]⟩ 0 tq zTy [x1]).wt ≤ gB d + 10 := by
             have h0 := HNM.out
             have h1 := HX1.out
             have h2 := HNO.out
             have h3 := HMO.out
             have e1 : (⟨#[]⟩ : ByteArray).size = 0 := rfl
             have e2 : nodesS zTy.args = 0 := rfl
             simp only [Tm.wt, wtS, e1, e2]
             omega
           generalize Tm.mk 6 nm ⟨#[]⟩ 0 tq zTy [x1] = x3 at hN3 hx3 ⊢
           have HX3 := Lib.hid hx3
           have HT3 := hN3.tm.mono (C' := fun z => wo.heap.size ≤ z) (fun z hz _ => Nat.le_trans (by have := HL_u1.out; have := HL_u2.out; have e : wo.drew.heap.size = wo.heap.size := rfl; omega) hz)
           have HS_u3 := Lib.hid (HS_u2.out.below hb)
           have HG_u3 : Hid (wo.grownBy u3 (some b)) := Lib.hid (grown_below HG_u2.out HG_u2.out.size hb)
           have HL_u3 := Lib.hid hb.size
           have HTH3 := Lib.hid HT3
           clear hb hN3 hx3 HT3 HT1 hup)
        | (clear FL3
           go_at_call 92
           have HT3 := HTH3.out
           refine (HIH.out (fun z => C z ∨ w4.heap.size ≤ z) L a c tq _ n u3 ((HH.out.stays (HSTO.out _ HG_u3.out)).mono (C' := fun z => C z ∨ w4.heap.size ≤ z) (fun z hz _ => Or.inl hz)) ⟨_, rfl, (HTO.out _ HG_u3.out).mono (fun z hz _ => Or.inr hz)⟩ hfo (by have := HNO.out; omega) (by omega) (fun z hz => Or.elim hz (hCb z) (fun hy => by have hy' : w4.heap.size ≤ z := hy; have := HL4.out; omega)) HS_u3.out.cur).mono ?_
           rintro e u4 ⟨x2, v, rfl, hx, ⟨tp2, tc2, rp2, rc2, p2, c2, rfl, ht⟩, hc, hg⟩
           have HX2 := Lib.hid hx
           have HT2 := ht.mono (C' := fun z => wo.heap.size ≤ z) (fun z hz _ => Nat.le_trans (by have := HL_u1.out; have := HL_u2.out; have := HL_u3.out; have e : wo.drew.heap.size = wo.heap.size := rfl; omega) hz)
           have HS_u4 := Lib.hid (HS_u3.out.step hc hg)
           have HG_u4 : Hid (wo.grownBy u4 (some b)) := Lib.hid (grownBy_trans HG_u3.out hg)
           have HL_u4 := Lib.hid hg.size
           have HT3 := HT3.stays (grown_stays hg (fun z hz => by have hz' : wo.heap.size ≤ z := hz; have := HSO.out.lt; have := HSO.out.lo; omega))
           have HTH3 := Lib.hid HT3
           have HTH2 := Lib.hid HT2
           clear HT3 HT2 hx ht hc hg)
        | (clear FL4
           go_at_call 149
           have HT3 := HTH3.out
           have HT2 := HTH2.out
           have hal := al_below u4 (.cells ([Value.int .i64 x3.kind, .string x3.name, .string x3.other, .int .i64 x3.n, .int .i64 x3.ty.kind, .slice tp3 x3.ty.args.length tc3, .int .i64 x3.res.kind, .slice rp3 x3.res.args.length rc3, .slice p3 x3.args.length c3, Value.int .i64 x2.kind, .string x2.name, .string x2.other, .int .i64 x2.n, .int .i64 x2.ty.kind, .slice tp2 x2.ty.args.length tc2, .int .i64 x2.res.kind, .slice rp2 x2.res.args.length rc2, .slice p2 x2.args.length c2]).toArray 29)
           have hms := (ms_cons (HT3.stays (.of_below hal)) (ms_one (HT2.stays (.of_below hal))))
           try simp only [List.cons_append, List.nil_append] at hms
           refine (node_any (C := fun z => wo.heap.size ≤ z) (ts := [x3, x2]) 7 (dm_lit (ts := [x3, x2]) (blk_new u4 _) hms (by have := HL_u1.out; have := HL_u2.out; have := HL_u3.out; have := HL_u4.out; have e : wo.drew.heap.size = wo.heap.size := rfl; omega) (by simp) (by simp)) (by have := HX3.out; have := HX2.out; simp only [wtS]; omega)).mono ?_
           rintro e uz ⟨tp, tc, rp, rc, p, cc, xs, rfl, hN, hb⟩
           have HN := Lib.hid hN
           have HS_uz := Lib.hid ((HS_u4.out.below hal).below hb)
           have HG_uz : Hid (wo.grownBy uz (some b)) := Lib.hid (grown_below (grown_below HG_u4.out HG_u4.out.size hal) (Nat.le_trans HG_u4.out.size hal.size) hb)
           have HAL := Lib.hid hal.size
           obtain ⟨⟨r0, r1, r2, r3, r4, r5, r6, r7, r8⟩, rz⟩ := zero9_facts HS_uz.out.box
           clear hN hb hal hms HT3 HT2))
    go_wp2_with fail
    refine bodyPost_ret (v := tmV (.mk 7 ⟨#[]⟩ ⟨#[]⟩ 0 zTy zTy [x3, x2]) tp tc rp rc p cc) ?_ rfl ?_
    · rw [results_cell1 rfl]
      go_simp
      all_goals (repeat' apply And.intro) <;> rfl
    · refine HS_uz.out.fin9 ?_ (HN.out.tm.mono (fun z hz _ => ?_))
      · have h3 := HX3.out
        have h2 := HX2.out
        have e1 : (⟨#[]⟩ : ByteArray).size = 0 := rfl
        have e2 : nodesS zTy.args = 0 := rfl
        simp only [Tm.wt, wtS, gB, e1, e2]
        omega
      · have h1 := HS_u4.out.lt
        have h2 := HAL.out
        have hz' : _ ≤ z := hz
        have h3 := HS_u4.out.lo
        exact ⟨by omega, by omega⟩
  · obtain ⟨k0, k1⟩ := HF.out _ HG4.out
    go_wp2_with fail
    refine (most_any (C := C) t.nodes t _ w4 (Nat.le_refl _) hf ⟨_, by rw [HKK.out], HT00.out.stays (HST.out _ HG4.out)⟩).mono ?_
    rintro e w5 ⟨r, rfl, hb⟩
    have HS5 := Lib.hid (HS4.out.below hb)
    have HG5 : Hid (wl.grownBy w5 (some b)) := Lib.hid (grown_below HG4.out HG4.out.size hb)
    have HLW : Hid (w4.heap.size ≤ w5.heap.size) := Lib.hid hb.size
    clear hb k0 k1
    by_cases hlv : wrap64 (n + r) < 2
    · go_wp2_with fail
      have HSD := Lib.hid (HS5.out.below (Below.refl _ w5).drew)
      have HGD : Hid (wl.grownBy w5.drew (some b)) := Lib.hid (grown_drewB HG5.out)
      have FL0 := Lib.hid trivial
      have FL1 := Lib.hid trivial
      have FL2 := Lib.hid trivial
      have FL3 := Lib.hid trivial
      go_region_held3 (fun w' => w'.cell? ⟨w.heap.size, 0, none⟩ = some (.int .i64 kk) ∧ w'.cell? ⟨w.heap.size, 1, none⟩ = some (.slice pt t.args.length ct))
        (first
          | with_reducible exact HF.out _ HGD.out
          | with_reducible exact HF.out _ HG_u1.out
          | with_reducible exact HF.out _ HG_u2.out
          | with_reducible exact HF.out _ HG_u3.out
          | with_reducible exact HF.out _ HG_uz.out
          | with_reducible exact ⟨keep9 (HF.out _ HG_uz.out).1 (by omega), keep9 (HF.out _ HG_uz.out).2 (by omega)⟩
          | with_reducible exact HF.out (World.alloc u3 _) (grown_below HG_u3.out HG_u3.out.size (al_below u3 _))
          | (go_keep; done))
        (first
          | (clear FL0
             go_at_call 189
             refine (safe_any n (HH.out.stays (HST.out _ HGD.out)) (by omega)).mono ?_
             rintro e u1 ⟨L2, a2, c2, rfl, hl2, hcx, hb⟩
             have HS_u1 := Lib.hid (HSD.out.below hb)
             have HG_u1 : Hid (wl.grownBy u1 (some b)) := Lib.hid (grown_below HGD.out HGD.out.size hb)
             have HL_u1 := Lib.hid hb.size
             have hup : w4.heap.size ≤ w5.drew.heap.size := by  have := HLW.out; have e : w5.drew.heap.size = w5.heap.size := rfl; omega
             have HCX : Hid (CX u1 (fun z => w4.heap.size ≤ z) L2 (.slice (some a2) L2.length c2)) := Lib.hid (hcx.mono (fun z hz _ => Nat.le_trans hup hz))
             have HL2 := Lib.hid hl2
             clear  hb hcx hup hl2)
          | (clear FL1
             go_at_call 90
             refine (l3Code_any (C := C) (t := t) ⟨_, by rw [HKK.out], HT00.out.stays (HST.out _ HG_u1.out)⟩ (by have := HMT.out; omega)).mono ?_
             rintro e u2 ⟨v4, rfl, hG4, hb⟩
             have HS_u2 := Lib.hid (HS_u1.out.below hb)
             have HG_u2 : Hid (wl.grownBy u2 (some b)) := Lib.hid (grown_below HG_u1.out HG_u1.out.size hb)
             have HL_u2 := Lib.hid hb.size
             have hup : w4.heap.size ≤ u1.heap.size := by have := HL_u1.out; have := HLW.out; have e : w5.drew.heap.size = w5.heap.size := rfl; omega
             have HTC : Hid (TT u2 (fun z => w4.heap.size ≤ z) (.mk 4 [t]) v4) := Lib.hid (tt_mono hG4.tt (fun z hz _ => Nat.le_trans hup hz))
             have HCX2 := Lib.hid (HCX.out.stays (.of_below hb))
             clear  hb hG4 hup)
          | (clear FL2
             go_at_call 92
             refine (HIH.out (fun z => w4.heap.size ≤ z) L2 a2 c2 (.mk 4 [t]) _ _ u2 HCX2.out HTC.out hf4 (by have := HN4.out; omega) (by have := HL2.out; omega) (fun z hz => by have hz' : w4.heap.size ≤ z := hz; have := HL4.out; omega) HS_u2.out.cur).mono ?_
             rintro e u3 ⟨x1, v, rfl, hx, ⟨tp1, tc1, rp1, rc1, p1, c1, rfl, ht⟩, hc, hg⟩
             have HX1 := Lib.hid hx
             have HT1 := ht.mono (C' := fun z => w5.heap.size ≤ z) (fun z hz _ => Nat.le_trans (by have := HL_u1.out; have := HL_u2.out; have e : w5.drew.heap.size = w5.heap.size := rfl; omega) hz)
             have HS_u3 := Lib.hid (HS_u2.out.step hc hg)
             have HG_u3 : Hid (wl.grownBy u3 (some b)) := Lib.hid (grownBy_trans HG_u2.out hg)
             have HL_u3 := Lib.hid hg.size
             have HTH1 := Lib.hid HT1
             clear HT1 hx ht hc hg)
          | (clear FL3
             go_at_call 149
             have HT1 := HTH1.out
             have hal := al_below u3 (.cells ([Value.int .i64 x1.kind, .string x1.name, .string x1.other, .int .i64 x1.n, .int .i64 x1.ty.kind, .slice tp1 x1.ty.args.length tc1, .int .i64 x1.res.kind, .slice rp1 x1.res.args.length rc1, .slice p1 x1.args.length c1]).toArray 29)
             have hms := (ms_one (HT1.stays (.of_below hal)))
             try simp only [List.cons_append, List.nil_append] at hms
             refine (node_any (C := fun z => w5.heap.size ≤ z) (ts := [x1]) 12 (dm_lit (ts := [x1]) (blk_new u3 _) hms (by have := HL_u1.out; have := HL_u2.out; have := HL_u3.out; have e : w5.drew.heap.size = w5.heap.size := rfl; omega) (by simp) (by simp)) (by have := HX1.out; simp only [wtS]; omega)).mono ?_
             rintro e uz ⟨tp, tc, rp, rc, p, cc, xs, rfl, hN, hb⟩
             have HN := Lib.hid hN
             have HS_uz := Lib.hid ((HS_u3.out.below hal).below hb)
             have HG_uz : Hid (wl.grownBy uz (some b)) := Lib.hid (grown_below (grown_below HG_u3.out HG_u3.out.size hal) (Nat.le_trans HG_u3.out.size hal.size) hb)
             have HAL := Lib.hid hal.size
             obtain ⟨⟨r0, r1, r2, r3, r4, r5, r6, r7, r8⟩, rz⟩ := zero9_facts HS_uz.out.box
             clear hN hb hal hms HT1))
      go_wp2_with fail
      refine bodyPost_ret (v := tmV (.mk 12 ⟨#[]⟩ ⟨#[]⟩ 0 zTy zTy [x1]) tp tc rp rc p cc) ?_ rfl ?_
      · rw [results_cell1 rfl]
        go_simp
        all_goals (repeat' apply And.intro) <;> rfl
      · refine HS_uz.out.fin9 ?_ (HN.out.tm.mono (fun z hz _ => ?_))
        · have h1 := HX1.out
          have e1 : (⟨#[]⟩ : ByteArray).size = 0 := rfl
          have e2 : nodesS zTy.args = 0 := rfl
          simp only [Tm.wt, wtS, gB, e1, e2]
          omega
        · have h1 := HS_u3.out.lt
          have h2 := HAL.out
          have hz' : _ ≤ z := hz
          have h3 := HS_u3.out.lo
          exact ⟨by omega, by omega⟩
    · obtain ⟨k0, k1⟩ := HF.out _ HG5.out
      by_cases hn0 : 0 < n
      · have HCC := Lib.hid (l3Code_any (C := C) (t := t) (w := w5) (v := .agg #[.int .i64 kk, .slice pt t.args.length ct]) ⟨_, by rw [HKK.out], HT00.out.stays (HST.out _ HG5.out)⟩ (by have := HMT.out; omega))
        go_wp2_with fail
        refine HCC.out.mono ?_
        rintro e w6 ⟨v4, rfl, hG4, hb⟩
        have HS6 := Lib.hid (HS5.out.below hb)
        have HG6 : Hid (wl.grownBy w6 (some b)) := Lib.hid (grown_below HG5.out HG5.out.size hb)
        have HTC := Lib.hid (tt_mono hG4.tt (C' := fun z => C z ∨ w4.heap.size ≤ z) (fun z hz _ => Or.inr (Nat.le_trans HLW.out hz)))
        clear hb hG4 k0 k1
        go_wp2_with fail
        refine (HIH.out (fun z => C z ∨ w4.heap.size ≤ z) L a c (.mk 4 [t]) _ _ w6 ((HH.out.stays (HST.out _ HG6.out)).mono (fun z hz _ => Or.inl hz)) HTC.out hf4 (by have := HN4.out; omega) (by omega) (fun z hz => Or.elim hz (hCb z) (fun hy => by have hy' : w4.heap.size ≤ z := hy; have := HL4.out; omega)) HS6.out.cur).mono ?_
        rintro e w7 ⟨x1, v, rfl, hx, ⟨tp1, tc1, rp1, rc1, p1, c1, rfl, ht⟩, hc, hg⟩
        have HX1 := Lib.hid hx
        have HS7 := Lib.hid (HS6.out.step hc hg)
        have hal := al_below w7 (.cells ([Value.int .i64 x1.kind, .string x1.name, .string x1.other, .int .i64 x1.n, .int .i64 x1.ty.kind, .slice tp1 x1.ty.args.length tc1, .int .i64 x1.res.kind, .slice rp1 x1.res.args.length rc1, .slice p1 x1.args.length c1]).toArray 29)
        have HC := Lib.hid (node_any (C := fun z => w6.heap.size ≤ z) (ts := [x1]) 11 (dm_lit (ts := [x1]) (blk_new w7 _) (ms_one (ht.stays (.of_below hal))) hg.size (by simp) (by simp)) (by simp only [wtS]; omega))
        have HAL := Lib.hid hal
        clear hx ht hc hg hal
        go_wp2_with fail
        refine HC.out.mono ?_
        rintro e uz ⟨tp, tc, rp, rc, p, cc, xs, rfl, hN, hb⟩
        have HN := Lib.hid hN
        have HS_uz := Lib.hid ((HS7.out.below HAL.out).below hb)
        obtain ⟨⟨r0, r1, r2, r3, r4, r5, r6, r7, r8⟩, rz⟩ := zero9_facts HS_uz.out.box
        clear hN hb
        go_wp2_with fail
        refine bodyPost_ret (v := tmV (.mk 11 ⟨#[]⟩ ⟨#[]⟩ 0 zTy zTy [x1]) tp tc rp rc p cc) ?_ rfl ?_
        · rw [results_cell1 rfl]
          go_simp
          all_goals (repeat' apply And.intro) <;> rfl
        · refine HS_uz.out.fin9 ?_ (HN.out.tm.mono (fun z hz _ => ?_))
          · have h1 := HX1.out
            have e1 : (⟨#[]⟩ : ByteArray).size = 0 := rfl
            have e2 : nodesS zTy.args = 0 := rfl
            simp only [Tm.wt, wtS, gB, e1, e2]
            omega
          · have h1 := HS7.out.lt
            have h2 := HAL.out.size
            have hz' : _ ≤ z := hz
            have h3 := HS7.out.lo
            exact ⟨by omega, by omega⟩
      · go_wp2_with fail
        refine (small_any (C := C) t.nodes t b n _ w5 (Nat.le_refl _) hf (by omega) ⟨_, by rw [HKK.out], HT00.out.stays (HST.out _ HG5.out)⟩ hCb HS5.out.cur).mono ?_
        rintro e w6 ⟨x1, v, rfl, hx, ⟨tp1, tc1, rp1, rc1, p1, c1, rfl, ht⟩, hc, hg⟩
        have HX1 := Lib.hid hx
        have HT1 := Lib.hid ht
        have HS6 := Lib.hid (HS5.out.step hc hg)
        obtain ⟨⟨r0, r1, r2, r3, r4, r5, r6, r7, r8⟩, rz⟩ := zero9_facts HS6.out.box
        clear hx ht hc hg k0 k1
        go_wp2_with fail
        refine bodyPost_ret (v := tmV x1 tp1 tc1 rp1 rc1 p1 c1) ?_ rfl ?_
        · rw [results_cell1 rfl]
          go_simp
          all_goals (repeat' apply And.intro) <;> rfl
        · refine HS6.out.fin9 (by have h1 := HX1.out; simp only [gB]; omega) (HT1.out.mono (fun z hz _ => ?_))
          have h1 := HS5.out.lt
          have hz' : _ ≤ z := hz
          have h3 := HS5.out.lo
          exact ⟨by omega, by omega⟩
  · have HLW : Hid (w4.heap.size ≤ w4.heap.size) := Lib.hid (Nat.le_refl _)
    obtain ⟨k0, k1⟩ := HF.out _ HG4.out
    by_cases hn0 : 0 < n
    · have HCC := Lib.hid (l3Code_any (C := C) (t := t) (w := w4) (v := .agg #[.int .i64 kk, .slice pt t.args.length ct]) ⟨_, by rw [HKK.out], HT00.out.stays (HST.out _ HG4.out)⟩ (by have := HMT.out; omega))
      go_wp2_with fail
      refine HCC.out.mono ?_
      rintro e w6 ⟨v4, rfl, hG4, hb⟩
      have HS6 := Lib.hid (HS4.out.below hb)
      have HG6 : Hid (wl.grownBy w6 (some b)) := Lib.hid (grown_below HG4.out HG4.out.size hb)
      have HTC := Lib.hid (tt_mono hG4.tt (C' := fun z => C z ∨ w4.heap.size ≤ z) (fun z hz _ => Or.inr (Nat.le_trans HLW.out hz)))
      clear hb hG4 k0 k1
      go_wp2_with fail
      refine (HIH.out (fun z => C z ∨ w4.heap.size ≤ z) L a c (.mk 4 [t]) _ _ w6 ((HH.out.stays (HST.out _ HG6.out)).mono (fun z hz _ => Or.inl hz)) HTC.out hf4 (by have := HN4.out; omega) (by omega) (fun z hz => Or.elim hz (hCb z) (fun hy => by have hy' : w4.heap.size ≤ z := hy; have := HL4.out; omega)) HS6.out.cur).mono ?_
      rintro e w7 ⟨x1, v, rfl, hx, ⟨tp1, tc1, rp1, rc1, p1, c1, rfl, ht⟩, hc, hg⟩
      have HX1 := Lib.hid hx
      have HS7 := Lib.hid (HS6.out.step hc hg)
      have hal := al_below w7 (.cells ([Value.int .i64 x1.kind, .string x1.name, .string x1.other, .int .i64 x1.n, .int .i64 x1.ty.kind, .slice tp1 x1.ty.args.length tc1, .int .i64 x1.res.kind, .slice rp1 x1.res.args.length rc1, .slice p1 x1.args.length c1]).toArray 29)
      have HC := Lib.hid (node_any (C := fun z => w6.heap.size ≤ z) (ts := [x1]) 11 (dm_lit (ts := [x1]) (blk_new w7 _) (ms_one (ht.stays (.of_below hal))) hg.size (by simp) (by simp)) (by simp only [wtS]; omega))
      have HAL := Lib.hid hal
      clear hx ht hc hg hal
      go_wp2_with fail
      refine HC.out.mono ?_
      rintro e uz ⟨tp, tc, rp, rc, p, cc, xs, rfl, hN, hb⟩
      have HN := Lib.hid hN
      have HS_uz := Lib.hid ((HS7.out.below HAL.out).below hb)
      obtain ⟨⟨r0, r1, r2, r3, r4, r5, r6, r7, r8⟩, rz⟩ := zero9_facts HS_uz.out.box
      clear hN hb
      go_wp2_with fail
      refine bodyPost_ret (v := tmV (.mk 11 ⟨#[]⟩ ⟨#[]⟩ 0 zTy zTy [x1]) tp tc rp rc p cc) ?_ rfl ?_
      · rw [results_cell1 rfl]
        go_simp
        all_goals (repeat' apply And.intro) <;> rfl
      · refine HS_uz.out.fin9 ?_ (HN.out.tm.mono (fun z hz _ => ?_))
        · have h1 := HX1.out
          have e1 : (⟨#[]⟩ : ByteArray).size = 0 := rfl
          have e2 : nodesS zTy.args = 0 := rfl
          simp only [Tm.wt, wtS, gB, e1, e2]
          omega
        · have h1 := HS7.out.lt
          have h2 := HAL.out.size
          have hz' : _ ≤ z := hz
          have h3 := HS7.out.lo
          exact ⟨by omega, by omega⟩
    · go_wp2_with fail
      refine (small_any (C := C) t.nodes t b n _ w4 (Nat.le_refl _) hf (by omega) ⟨_, by rw [HKK.out], HT00.out.stays (HST.out _ HG4.out)⟩ hCb HS4.out.cur).mono ?_
      rintro e w6 ⟨x1, v, rfl, hx, ⟨tp1, tc1, rp1, rc1, p1, c1, rfl, ht⟩, hc, hg⟩
      have HX1 := Lib.hid hx
      have HT1 := Lib.hid ht
      have HS6 := Lib.hid (HS4.out.step hc hg)
      obtain ⟨⟨r0, r1, r2, r3, r4, r5, r6, r7, r8⟩, rz⟩ := zero9_facts HS6.out.box
      clear hx ht hc hg k0 k1
      go_wp2_with fail
      refine bodyPost_ret (v := tmV x1 tp1 tc1 rp1 rc1 p1 c1) ?_ rfl ?_
      · rw [results_cell1 rfl]
        go_simp
        all_goals (repeat' apply And.intro) <;> rfl
      · refine HS6.out.fin9 (by have h1 := HX1.out; simp only [gB]; omega) (HT1.out.mono (fun z hz _ => ?_))
        have h1 := HS4.out.lt
        have hz' : _ ≤ z := hz
        have h3 := HS4.out.lo
        exact ⟨by omega, by omega⟩
end Go.Proofs.YtfeijijeohfpgaaGreatDoor
namespace Go.Proofs.YtfeijijeohfpgaaGreatDoor
open Go Go.RowKit

theorem GenT.alloc {N b : Nat} {w W : World} {e : Ending} (h : GenT N b w e W) (o : Obj) : GenT N b w e (W.alloc o) := by
  obtain ⟨x, v, h1, h2, ⟨tp, tc, rp, rc, p, c, rfl, hx⟩, h4, h5⟩ := h
  exact ⟨x, _, h1, h2, ⟨tp, tc, rp, rc, p, c, rfl, hx.stays (.of_below (al_below W o))⟩, h4.below (al_below W o), grown_below h5 h5.size (al_below W o)⟩

set_option maxRecDepth 100000 in
set_option maxHeartbeats 16000000 in
theorem gen_step {C : Nat → Prop} {L : List Tg} {a : Addr} {c : Nat} {t : Ty} {vt : Value} {w : World} (b d N : Nat) (D n : Int) (hlow : 100 ≤ N) (hhi : 2 ≤ D → N = gB (d + 1) ∧ GenH b d (D - 1) ∧ t.nodes + d + 1 ≤ 100 ∧ L.length + d + 1 ≤ 1000 ∧ d ≤ 90 ∧ gB d ≤ 100000 ∧ D ≤ 9) (h : CX w C L (.slice (some a) L.length c)) (ht : TT w C t vt) (hf : t.form = true) (htn : t.nodes ≤ 100) (hL : L.length ≤ 1000) (hCb : ∀ z, C z → z ≠ b) (hc : Cur w b) :
    Calls Tryz.prog 92 #[.pointer (some ⟨b, 0, none⟩), .slice (some a) L.length c, vt, .int .i64 n, .int .i64 D] w (GenT N b w) := by
  obtain ⟨st, rfl, hst0⟩ := ht
  obtain ⟨pt, ct, rfl⟩ := hst0.form
  have hbw := hc.lt
  obtain ⟨kk, hkk⟩ : ∃ kk, t.kind = kk := ⟨_, rfl⟩
  rw [hkk]
  have HKK := Lib.hid hkk
  clear hkk
  obtain ⟨wl, hwl, hsz, hbl, qt, qr⟩ := box_new2 w #[.int .i64 kk, .slice pt t.args.length ct] zero9 26 29
  have HSL : Hid (Slot w b (w.heap.size + 1) wl) := Lib.hid ⟨hc.below hbl, grown_below (grownB_refl w _) (Nat.le_refl _) hbl, qr, by omega, hbw⟩
  have HH := Lib.hid h
  have HHI := Lib.hid hhi
  have HT00 := Lib.hid hst0
  have HF := Lib.hid (fun (W : World) (hW : wl.grownBy W (some b)) => show W.cell? ⟨w.heap.size, 0, none⟩ = some (.int .i64 kk) ∧ W.cell? ⟨w.heap.size, 1, none⟩ = some (.slice pt t.args.length ct) from by
    have ci := (hW.block w.heap.size (by omega) (fun e => by have := Option.some.inj e; omega)).trans qt
    exact ⟨cell_of_blk ci 0, cell_of_blk ci 1⟩)
  have HST := Lib.hid (fun (W : World) (hW : wl.grownBy W (some b)) => grown_stays (C := C) (grownBy_trans (grown_below (grownB_refl w (some b)) (Nat.le_refl _) hbl) hW) hCb)
  have HWL := Lib.hid hwl
  have HSZ := Lib.hid hsz
  clear hwl hsz hbl qt qr hc h hst0 hhi
  go_enter Tryz.func92, Tryz.ntmps92
  go_wp2_with fail
  rw [show (w.alloc (.cells #[.int .i64 kk, .slice pt t.args.length ct] 26)).alloc (.cells zero9 29) = wl from HWL.out]
  refine (once_any b 3 wl (by decide) (by decide) HSL.out.cur).mono ?_
  rintro e w3 ⟨q1, rfl, hc3, hg3⟩
  have HS3 := Lib.hid (HSL.out.step hc3 hg3)
  have HG3 : Hid (wl.grownBy w3 (some b)) := Lib.hid hg3
  clear hc3 hg3
  cases q1 with
  | true =>
    obtain ⟨k0, k1⟩ := HF.out _ HG3.out
    by_cases hD2 : D < 2
    · go_wp2_with fail
      refine (small_any (C := C) t.nodes t b n _ w3 (Nat.le_refl _) hf htn ⟨_, by rw [HKK.out], HT00.out.stays (HST.out _ HG3.out)⟩ hCb HS3.out.cur).mono ?_
      rintro e w9 ⟨x1, v, rfl, hx, ⟨tp1, tc1, rp1, rc1, p1, c1, rfl, ht⟩, hc, hg⟩
      have HX1 := Lib.hid hx
      have HT1 := Lib.hid ht
      have HS9 := Lib.hid (HS3.out.step hc hg)
      obtain ⟨⟨r0, r1, r2, r3, r4, r5, r6, r7, r8⟩, rz⟩ := zero9_facts HS9.out.box
      clear hx ht hc hg
      go_wp2_with fail
      refine bodyPost_ret (v := tmV x1 tp1 tc1 rp1 rc1 p1 c1) ?_ rfl ?_
      · rw [results_cell1 rfl]
        go_simp
        all_goals (repeat' apply And.intro) <;> rfl
      · refine HS9.out.fin9 (by have h1 := HX1.out;  omega) (HT1.out.mono (fun z hz _ => ?_))
        have h1 := HS3.out.lt
        have hz' : _ ≤ z := hz
        have h3 := HS3.out.lo
        exact ⟨by omega, by omega⟩
    · obtain ⟨hN, hIH, htd, hLd, hd, hgd, hD9⟩ := HHI.out (by omega)
      subst hN
      have HIH := Lib.hid hIH
      clear hIH
      have hwr : IntKind.i64.wrap (D - 1) = D - 1 := IntWalk.i64_in _ (by omega)
      go_wp2_with fail
      refine (once_any b 3 w3 (by decide) (by decide) HS3.out.cur).mono ?_
      rintro e w5 ⟨q2, rfl, hc5, hg5⟩
      have HS5 := Lib.hid (HS3.out.step hc5 hg5)
      have HG5 : Hid (wl.grownBy w5 (some b)) := Lib.hid (grownBy_trans HG3.out hg5)
      clear hc5 hg5 k0 k1
      obtain ⟨k0, k1⟩ := HF.out _ HG5.out
      cases q2 with
      | true =>
        go_wp2_with fail
        refine (any_step (C := C) b d D n (by omega) hD9 hgd HIH.out (HH.out.stays (HST.out _ HG5.out)) ⟨_, by rw [HKK.out], HT00.out.stays (HST.out _ HG5.out)⟩ hf hd htd hLd hCb HS5.out.cur).mono ?_
        rintro e w9 ⟨x1, v, rfl, hx, ⟨tp1, tc1, rp1, rc1, p1, c1, rfl, ht⟩, hc, hg⟩
        have HX1 := Lib.hid hx
        have HT1 := Lib.hid ht
        have HS9 := Lib.hid (HS5.out.step hc hg)
        obtain ⟨⟨r0, r1, r2, r3, r4, r5, r6, r7, r8⟩, rz⟩ := zero9_facts HS9.out.box
        clear hx ht hc hg
        go_wp2_with fail
        refine bodyPost_ret (v := tmV x1 tp1 tc1 rp1 rc1 p1 c1) ?_ rfl ?_
        · rw [results_cell1 rfl]
          go_simp
          all_goals (repeat' apply And.intro) <;> rfl
        · refine HS9.out.fin9 (by have h1 := HX1.out;  omega) (HT1.out.mono (fun z hz _ => ?_))
          have h1 := HS5.out.lt
          have hz' : _ ≤ z := hz
          have h3 := HS5.out.lo
          exact ⟨by omega, by omega⟩
      | false =>
        rcases form_cases hf with rfl | rfl | ⟨ta, tb, rfl, hfa, hfb⟩ | ⟨ta, rfl, hfa⟩
        · obtain rfl : kk = 1 := HKK.out.symm
          go_wp2_with fail
          refine (base_step (C := C) b d D n (by omega) hD9 hgd HIH.out (HH.out.stays (HST.out _ HG5.out)) (t := .mk 1 []) ⟨_, rfl, HT00.out.stays (HST.out _ HG5.out)⟩ hd (by omega) hCb HS5.out.cur).mono ?_
          rintro e w9 ⟨x1, v, rfl, hx, ⟨tp1, tc1, rp1, rc1, p1, c1, rfl, ht⟩, hc, hg⟩
          have HX1 := Lib.hid hx
          have HT1 := Lib.hid ht
          have HS9 := Lib.hid (HS5.out.step hc hg)
          obtain ⟨⟨r0, r1, r2, r3, r4, r5, r6, r7, r8⟩, rz⟩ := zero9_facts HS9.out.box
          clear hx ht hc hg
          go_wp2_with fail
          refine bodyPost_ret (v := tmV x1 tp1 tc1 rp1 rc1 p1 c1) ?_ rfl ?_
          · rw [results_cell1 rfl]
            go_simp
            all_goals (repeat' apply And.intro) <;> rfl
          · refine HS9.out.fin9 (by have h1 := HX1.out;  omega) (HT1.out.mono (fun z hz _ => ?_))
            have h1 := HS5.out.lt
            have hz' : _ ≤ z := hz
            have h3 := HS5.out.lo
            exact ⟨by omega, by omega⟩
        · obtain rfl : kk = 2 := HKK.out.symm
          go_wp2_with fail
          refine (base_step (C := C) b d D n (by omega) hD9 hgd HIH.out (HH.out.stays (HST.out _ HG5.out)) (t := .mk 2 []) ⟨_, rfl, HT00.out.stays (HST.out _ HG5.out)⟩ hd (by omega) hCb HS5.out.cur).mono ?_
          rintro e w9 ⟨x1, v, rfl, hx, ⟨tp1, tc1, rp1, rc1, p1, c1, rfl, ht⟩, hc, hg⟩
          have HX1 := Lib.hid hx
          have HT1 := Lib.hid ht
          have HS9 := Lib.hid (HS5.out.step hc hg)
          obtain ⟨⟨r0, r1, r2, r3, r4, r5, r6, r7, r8⟩, rz⟩ := zero9_facts HS9.out.box
          clear hx ht hc hg
          go_wp2_with fail
          refine bodyPost_ret (v := tmV x1 tp1 tc1 rp1 rc1 p1 c1) ?_ rfl ?_
          · rw [results_cell1 rfl]
            go_simp
            all_goals (repeat' apply And.intro) <;> rfl
          · refine HS9.out.fin9 (by have h1 := HX1.out;  omega) (HT1.out.mono (fun z hz _ => ?_))
            have h1 := HS5.out.lt
            have hz' : _ ≤ z := hz
            have h3 := HS5.out.lo
            exact ⟨by omega, by omega⟩
        · obtain ⟨bo, oo, p0, c0, rfl, hc0, hT0⟩ := HT00.out.at 0 ta rfl
          obtain ⟨_, _, p1', c1', hq1, hc1, hT1⟩ := HT00.out.at 1 tb rfl
          simp only [Option.some.injEq, Addr.mk.injEq, and_true] at hq1
          obtain ⟨rfl, rfl⟩ := hq1
          obtain rfl : kk = 3 := HKK.out.symm
          have hbo : bo < w.heap.size := World.block_lt_of_cell? w _ (hc0 w (Stays.refl _ _)).1
          have HF5 := Lib.hid (fun (W : World) (hW : wl.grownBy W (some b)) => show W.cell? ⟨w.heap.size, 1, none⟩ = some (.slice (some ⟨bo, oo, none⟩) 2 ct) ∧ W.cell? ⟨bo, oo, none⟩ = some (.int .i64 ta.kind) ∧ W.cell? ⟨bo, oo + 1, none⟩ = some (.slice p0 ta.args.length c0) ∧ W.cell? ⟨bo, oo + 2, none⟩ = some (.int .i64 tb.kind) ∧ W.cell? ⟨bo, oo + 2 + 1, none⟩ = some (.slice p1' tb.args.length c1') from by
            have k2 := hc0 W (HST.out W hW)
            have k3 := hc1 W (HST.out W hW)
            exact ⟨(HF.out W hW).2, k2.1, k2.2, k3.1, k3.2⟩)
          have HTA := Lib.hid hT0
          have HTB := Lib.hid hT1
          have HNT : Hid (1 + ta.nodes + tb.nodes ≤ 99 ∧ nodesS ta.args ≤ 100 ∧ nodesS ta.args + 1 = ta.nodes ∧ 1 + ta.nodes + tb.nodes + d + 1 ≤ 100) := Lib.hid (by simp only [Ty.nodes, nodesS] at htd; have := ta.nodes_eq; omega)
          have hp3 := pickS_litG [⟨#[120]⟩, ⟨#[121]⟩] 2 b w5 #[.string ⟨#[120]⟩, .string ⟨#[121]⟩] rfl (by decide) (by decide) rfl HS5.out.cur
          have HP3 := Lib.hid hp3
          clear hc0 hc1 hT0 hT1 hp3
          go_wp2_with fail
          refine HP3.out.mono ?_
          rintro e w6 ⟨nm, hnm, rfl, hc6, hg6⟩
          have HNM : Hid (nm.size ≤ 1) := Lib.hid (by simp at hnm; rcases hnm with rfl | rfl <;> decide)
          have HS6 := Lib.hid (HS5.out.step hc6 hg6)
          have HG6 : Hid (wl.grownBy w6 (some b)) := Lib.hid (grownBy_trans HG5.out hg6)
          have hlo : w.heap.size + 1 < w6.heap.size := by have h1 := HS5.out.lt; have h2 := hg6.size; omega
          clear hnm hc6 hg6 k0 k1
          go_wp2_with fail
          have HSD := Lib.hid (HS6.out.below (Below.refl _ w6).drew)
          have HGD : Hid (wl.grownBy w6.drew (some b)) := Lib.hid (grown_drewB HG6.out)
          have FL0 := Lib.hid trivial
          have FL1 := Lib.hid trivial
          have FL2 := Lib.hid trivial
          go_region_held3 (fun w' => w'.cell? ⟨w.heap.size, 1, none⟩ = some (.slice (some ⟨bo, oo, none⟩) 2 ct) ∧ w'.cell? ⟨bo, oo, none⟩ = some (.int .i64 ta.kind) ∧ w'.cell? ⟨bo, oo + 1, none⟩ = some (.slice p0 ta.args.length c0) ∧ w'.cell? ⟨bo, oo + 2, none⟩ = some (.int .i64 tb.kind) ∧ w'.cell? ⟨bo, oo + 2 + 1, none⟩ = some (.slice p1' tb.args.length c1'))
            (first
              | with_reducible exact HF5.out _ HGD.out
              | with_reducible exact HF5.out _ HG_u1.out
              | with_reducible exact HF5.out _ HG_u2.out
              | with_reducible exact HF5.out _ HG_uz.out
              | with_reducible exact ⟨keep9 (HF5.out _ HG_uz.out).1 (by omega), keep9 (HF5.out _ HG_uz.out).2.1 (by omega), keep9 (HF5.out _ HG_uz.out).2.2.1 (by omega), keep9 (HF5.out _ HG_uz.out).2.2.2.1 (by omega), keep9 (HF5.out _ HG_uz.out).2.2.2.2 (by omega)⟩
              | (go_keep; done))
            (first
              | (clear FL0
                 go_at_call 147
                 refine (with_any (C := C) (t := ta) nm n (HH.out.stays (HST.out _ HGD.out)) ⟨_, rfl, HTA.out.stays (HST.out _ HGD.out)⟩ (by omega) (by have := HNT.out; omega) (by have := HNM.out; omega)).mono ?_
                 rintro e u1 ⟨a2, c2, rfl, hcx, hb⟩
                 have HS_u1 := Lib.hid (HSD.out.below hb)
                 have HG_u1 : Hid (wl.grownBy u1 (some b)) := Lib.hid (grown_below HGD.out HGD.out.size hb)
                 have HL_u1 := Lib.hid hb.size
                 have HCX : Hid (CX u1 (fun z => C z ∨ w6.heap.size ≤ z) (L ++ [⟨nm, ta, n⟩]) (.slice (some a2) (L.length + 1) c2)) := Lib.hid (hcx.mono (fun z hz _ => Or.elim hz Or.inl (fun hy => Or.inr hy)))
                 clear  hb hcx)
              | (clear FL1
                 go_at_call 92
                 refine (gen_longer HIH.out (fun z => C z ∨ w6.heap.size ≤ z) L ⟨nm, ta, n⟩ a2 c2 tb _ n u1 HCX.out ⟨_, rfl, (HTB.out.stays (HST.out _ HG_u1.out)).mono (fun z hz _ => Or.inl hz)⟩ hfb (by have := HNT.out; omega) (by omega) (fun z hz => Or.elim hz (hCb z) (fun hy => by have hy' : w6.heap.size ≤ z := hy; omega)) HS_u1.out.cur).mono ?_
                 rintro e u2 ⟨x1, v, rfl, hx, ⟨tp1, tc1, rp1, rc1, p1, c1, rfl, ht⟩, hc, hg⟩
                 have HX1 := Lib.hid hx
                 have HT1 := ht.mono (C' := fun z => w6.heap.size ≤ z) (fun z hz _ => Nat.le_trans (by have := HL_u1.out; have e : w6.drew.heap.size = w6.heap.size := rfl; omega) hz)
                 have HS_u2 := Lib.hid (HS_u1.out.step hc hg)
                 have HG_u2 : Hid (wl.grownBy u2 (some b)) := Lib.hid (grownBy_trans HG_u1.out hg)
                 have HL_u2 := Lib.hid hg.size
                 have HTH1 := Lib.hid HT1
                 clear HT1 hx ht hc hg)
              | (clear FL2
                 go_at_call 146
                 have HT1 := HTH1.out
                 refine (lam_any (C := (fun z => C z ∨ w6.heap.size ≤ z)) nm (x := x1) (t := ta) ⟨_, rfl, (HTA.out.stays (HST.out _ HG_u2.out)).mono (fun z hz _ => Or.inl hz)⟩ ⟨_, _, _, _, _, _, rfl, HT1.mono (fun z hz _ => Or.inr hz)⟩ (by have := HNT.out; omega) (by have := HX1.out; omega)).mono ?_
                 rintro e uz ⟨tp, tc, rp, rc, p, cc, xs, rfl, hN, hb⟩
                 have HN := Lib.hid hN
                 have HS_uz := Lib.hid (HS_u2.out.below hb)
                 have HG_uz : Hid (wl.grownBy uz (some b)) := Lib.hid (grown_below HG_u2.out HG_u2.out.size hb)
                 have HAL : Hid (u2.heap.size ≤ u2.heap.size) := Lib.hid (Nat.le_refl _)
                 obtain ⟨⟨r0, r1, r2, r3, r4, r5, r6, r7, r8⟩, rz⟩ := zero9_facts HS_uz.out.box
                 clear hN hb HT1))
          go_wp2_with fail
          refine bodyPost_ret (v := tmV (.mk 6 nm ⟨#[]⟩ 0 ta zTy [x1]) tp tc rp rc p cc) ?_ rfl ?_
          · rw [results_cell1 rfl]
            go_simp
            all_goals (repeat' apply And.intro) <;> rfl
          · refine HS_uz.out.fin9 ?_ (HN.out.tm.mono (fun z hz _ => ?_))
            · have h0 := HNM.out
              have h1 := HX1.out
              have h4 := HNT.out
              have e1 : (⟨#[]⟩ : ByteArray).size = 0 := rfl
              have e2 : nodesS zTy.args = 0 := rfl
              simp only [Tm.wt, wtS, gB, e1, e2]
              omega
            · have h1 := HS_u2.out.lt
              have h2 := HAL.out
              have hz' : _ ≤ z := hz
              have h3 := HS_u2.out.lo
              exact ⟨by omega, by omega⟩
        · obtain ⟨bo, oo, p0, c0, rfl, hc0, hT0⟩ := HT00.out.at 0 ta rfl
          obtain rfl : kk = 4 := HKK.out.symm
          have HF5 := Lib.hid (fun (W : World) (hW : wl.grownBy W (some b)) => show W.cell? ⟨w.heap.size, 1, none⟩ = some (.slice (some ⟨bo, oo, none⟩) 1 ct) ∧ W.cell? ⟨bo, oo, none⟩ = some (.int .i64 ta.kind) ∧ W.cell? ⟨bo, oo + 1, none⟩ = some (.slice p0 ta.args.length c0) from by
            have k2 := hc0 W (HST.out W hW)
            simp only [Nat.zero_mul, Nat.add_zero] at k2
            exact ⟨(HF.out W hW).2, k2.1, k2.2⟩)
          have HTA := Lib.hid hT0
          have HNT : Hid (ta.nodes + d ≤ 100) := Lib.hid (by simp only [Ty.nodes, nodesS] at htd; omega)
          clear hc0 hT0
          obtain ⟨-, m0, m1⟩ := HF5.out _ HG5.out
          go_wp2_with fail
          refine (base_any (C := C) (t := ta) (v := .agg #[.int .i64 ta.kind, .slice p0 ta.args.length c0]) ⟨_, rfl, HTA.out.stays (HST.out _ HG5.out)⟩).mono ?_
          rintro e w6 ⟨q, -, rfl, hb⟩
          have HS6 := Lib.hid (HS5.out.below hb)
          have HG6 : Hid (wl.grownBy w6 (some b)) := Lib.hid (grown_below HG5.out HG5.out.size hb)
          clear hb k0 k1 m0 m1
          cases q with
          | true =>
            go_wp2_with fail
            refine (once_any b 4 w6 (by decide) (by decide) HS6.out.cur).mono ?_
            rintro e w7 ⟨q3, rfl, hc, hg⟩
            have HS7 := Lib.hid (HS6.out.step hc hg)
            have HG7 : Hid (wl.grownBy w7 (some b)) := Lib.hid (grownBy_trans HG6.out hg)
            clear hc hg
            cases q3 with
            | true =>
              obtain ⟨k1, m0, m1⟩ := HF5.out _ HG7.out
              go_wp2_with fail
              refine (HIH.out C L a c ta _ _ w7 (HH.out.stays (HST.out _ HG7.out)) ⟨_, rfl, HTA.out.stays (HST.out _ HG7.out)⟩ hfa (by have := HNT.out; omega) (by omega) hCb HS7.out.cur).mono ?_
              rintro e w8 ⟨x1, v, rfl, hx, ⟨tp1, tc1, rp1, rc1, p1, c1, rfl, ht⟩, hc, hg⟩
              have HX1 := Lib.hid hx
              have HS8 := Lib.hid (HS7.out.step hc hg)
              have hal := al_below w8 (.cells ([Value.int .i64 x1.kind, .string x1.name, .string x1.other, .int .i64 x1.n, .int .i64 x1.ty.kind, .slice tp1 x1.ty.args.length tc1, .int .i64 x1.res.kind, .slice rp1 x1.res.args.length rc1, .slice p1 x1.args.length c1]).toArray 29)
              have HC := Lib.hid (node_any (C := fun z => w7.heap.size ≤ z) (ts := [x1]) 13 (dm_lit (ts := [x1]) (blk_new w8 _) (ms_one (ht.stays (.of_below hal))) hg.size (by simp) (by simp)) (by simp only [wtS]; omega))
              have HAL := Lib.hid hal
              clear hx ht hc hg hal k1 m0 m1
              go_wp2_with fail
              refine HC.out.mono ?_
              rintro e uz ⟨tp, tc, rp, rc, p, cc, xs, rfl, hN, hb⟩
              have HN := Lib.hid hN
              have HS_uz := Lib.hid ((HS8.out.below HAL.out).below hb)
              obtain ⟨⟨r0, r1, r2, r3, r4, r5, r6, r7, r8⟩, rz⟩ := zero9_facts HS_uz.out.box
              clear hN hb
              go_wp2_with fail
              refine bodyPost_ret (v := tmV (.mk 13 ⟨#[]⟩ ⟨#[]⟩ 0 zTy zTy [x1]) tp tc rp rc p cc) ?_ rfl ?_
              · rw [results_cell1 rfl]
                go_simp
                all_goals (repeat' apply And.intro) <;> rfl
              · refine HS_uz.out.fin9 ?_ (HN.out.tm.mono (fun z hz _ => ?_))
                · have h1 := HX1.out
                  have e1 : (⟨#[]⟩ : ByteArray).size = 0 := rfl
                  have e2 : nodesS zTy.args = 0 := rfl
                  simp only [Tm.wt, wtS, gB, e1, e2]
                  omega
                · have h1 := HS8.out.lt
                  have h2 := HAL.out.size
                  have hz' : _ ≤ z := hz
                  have h3 := HS8.out.lo
                  exact ⟨by omega, by omega⟩
            | false =>
              obtain ⟨k1, m0, m1⟩ := HF5.out _ HG7.out
              go_wp2_with fail
              refine (HIH.out C L a c ta _ _ w7 (HH.out.stays (HST.out _ HG7.out)) ⟨_, rfl, HTA.out.stays (HST.out _ HG7.out)⟩ hfa (by have := HNT.out; omega) (by omega) hCb HS7.out.cur).mono ?_
              rintro e w8 ⟨x1, v, rfl, hx, ⟨tp1, tc1, rp1, rc1, p1, c1, rfl, ht⟩, hc, hg⟩
              have HX1 := Lib.hid hx
              have HS8 := Lib.hid (HS7.out.step hc hg)
              have hal := al_below w8 (.cells ([Value.int .i64 x1.kind, .string x1.name, .string x1.other, .int .i64 x1.n, .int .i64 x1.ty.kind, .slice tp1 x1.ty.args.length tc1, .int .i64 x1.res.kind, .slice rp1 x1.res.args.length rc1, .slice p1 x1.args.length c1]).toArray 29)
              have HC := Lib.hid (node_any (C := fun z => w7.heap.size ≤ z) (ts := [x1]) 10 (dm_lit (ts := [x1]) (blk_new w8 _) (ms_one (ht.stays (.of_below hal))) hg.size (by simp) (by simp)) (by simp only [wtS]; omega))
              have HAL := Lib.hid hal
              clear hx ht hc hg hal k1 m0 m1
              go_wp2_with fail
              refine HC.out.mono ?_
              rintro e uz ⟨tp, tc, rp, rc, p, cc, xs, rfl, hN, hb⟩
              have HN := Lib.hid hN
              have HS_uz := Lib.hid ((HS8.out.below HAL.out).below hb)
              obtain ⟨⟨r0, r1, r2, r3, r4, r5, r6, r7, r8⟩, rz⟩ := zero9_facts HS_uz.out.box
              clear hN hb
              go_wp2_with fail
              refine bodyPost_ret (v := tmV (.mk 10 ⟨#[]⟩ ⟨#[]⟩ 0 zTy zTy [x1]) tp tc rp rc p cc) ?_ rfl ?_
              · rw [results_cell1 rfl]
                go_simp
                all_goals (repeat' apply And.intro) <;> rfl
              · refine HS_uz.out.fin9 ?_ (HN.out.tm.mono (fun z hz _ => ?_))
                · have h1 := HX1.out
                  have e1 : (⟨#[]⟩ : ByteArray).size = 0 := rfl
                  have e2 : nodesS zTy.args = 0 := rfl
                  simp only [Tm.wt, wtS, gB, e1, e2]
                  omega
                · have h1 := HS8.out.lt
                  have h2 := HAL.out.size
                  have hz' : _ ≤ z := hz
                  have h3 := HS8.out.lo
                  exact ⟨by omega, by omega⟩
          | false =>
            obtain ⟨k1, m0, m1⟩ := HF5.out _ HG6.out
            go_wp2_with fail
            refine (HIH.out C L a c ta _ _ w6 (HH.out.stays (HST.out _ HG6.out)) ⟨_, rfl, HTA.out.stays (HST.out _ HG6.out)⟩ hfa (by have := HNT.out; omega) (by omega) hCb HS6.out.cur).mono ?_
            rintro e w8 ⟨x1, v, rfl, hx, ⟨tp1, tc1, rp1, rc1, p1, c1, rfl, ht⟩, hc, hg⟩
            have HX1 := Lib.hid hx
            have HS8 := Lib.hid (HS6.out.step hc hg)
            have hal := al_below w8 (.cells ([Value.int .i64 x1.kind, .string x1.name, .string x1.other, .int .i64 x1.n, .int .i64 x1.ty.kind, .slice tp1 x1.ty.args.length tc1, .int .i64 x1.res.kind, .slice rp1 x1.res.args.length rc1, .slice p1 x1.args.length c1]).toArray 29)
            have HC := Lib.hid (node_any (C := fun z => w6.heap.size ≤ z) (ts := [x1]) 10 (dm_lit (ts := [x1]) (blk_new w8 _) (ms_one (ht.stays (.of_below hal))) hg.size (by simp) (by simp)) (by simp only [wtS]; omega))
            have HAL := Lib.hid hal
            clear hx ht hc hg hal k1 m0 m1
            go_wp2_with fail
            refine HC.out.mono ?_
            rintro e uz ⟨tp, tc, rp, rc, p, cc, xs, rfl, hN, hb⟩
            have HN := Lib.hid hN
            have HS_uz := Lib.hid ((HS8.out.below HAL.out).below hb)
            obtain ⟨⟨r0, r1, r2, r3, r4, r5, r6, r7, r8⟩, rz⟩ := zero9_facts HS_uz.out.box
            clear hN hb
            go_wp2_with fail
            refine bodyPost_ret (v := tmV (.mk 10 ⟨#[]⟩ ⟨#[]⟩ 0 zTy zTy [x1]) tp tc rp rc p cc) ?_ rfl ?_
            · rw [results_cell1 rfl]
              go_simp
              all_goals (repeat' apply And.intro) <;> rfl
            · refine HS_uz.out.fin9 ?_ (HN.out.tm.mono (fun z hz _ => ?_))
              · have h1 := HX1.out
                have e1 : (⟨#[]⟩ : ByteArray).size = 0 := rfl
                have e2 : nodesS zTy.args = 0 := rfl
                simp only [Tm.wt, wtS, gB, e1, e2]
                omega
              · have h1 := HS8.out.lt
                have h2 := HAL.out.size
                have hz' : _ ≤ z := hz
                have h3 := HS8.out.lo
                exact ⟨by omega, by omega⟩
  | false =>
    obtain ⟨k0, k1⟩ := HF.out _ HG3.out
    go_wp2_with fail
    refine (known_any (C := C) (t := t) b n (HH.out.stays (HST.out _ HG3.out)) ⟨_, by rw [HKK.out], HT00.out.stays (HST.out _ HG3.out)⟩ hL HS3.out.cur).mono ?_
    rintro e w4 ⟨x1, v, q2, rfl, hx, ⟨tp1, tc1, rp1, rc1, p1, c1, rfl, ht⟩, hc, hg⟩
    obtain ⟨wk, hwk, hszk, hbk, qk⟩ := box_new w4 #[Value.int .i64 x1.kind, .string x1.name, .string x1.other, .int .i64 x1.n, .int .i64 x1.ty.kind, .slice tp1 x1.ty.args.length tc1, .int .i64 x1.res.kind, .slice rp1 x1.res.args.length rc1, .slice p1 x1.args.length c1] 29
    have HX1 := Lib.hid hx
    have HT1 := Lib.hid (ht.stays (.of_below hbk))
    have HTQ := Lib.hid ht
    have HSQ := Lib.hid (HS3.out.step hc hg)
    have HS4 := Lib.hid (HSQ.out.below hbk)
    have HG4 : Hid (wl.grownBy wk (some b)) := Lib.hid (grown_below (grownBy_trans HG3.out hg) (grownBy_trans HG3.out hg).size hbk)
    have HWK := Lib.hid hwk
    have hlt4 : w.heap.size + 1 < w4.heap.size := by have h1 := HS3.out.lt; have h2 := hg.size; omega
    obtain ⟨⟨y0, y1, y2, y3, y4, y5, y6, y7, y8⟩, yz⟩ := nine_facts qk
    clear hx ht hc hg hwk hszk hbk qk k0 k1
    cases q2 with
    | true =>
      obtain ⟨⟨r0, r1, r2, r3, r4, r5, r6, r7, r8⟩, rz⟩ := zero9_facts HSQ.out.box
      clear y0 y1 y2 y3 y4 y5 y6 y7 y8 yz
      go_wp2_with fail
      refine bodyPost_ret (v := tmV x1 tp1 tc1 rp1 rc1 p1 c1) ?_ rfl ?_
      · rw [results_cell1 rfl]
        go_simp
        all_goals (repeat' apply And.intro) <;> rfl
      · exact (HSQ.out.fin9 (N := N) (x := x1) (by have h1 := HX1.out; omega) (HTQ.out.mono (fun z hz _ => by have h1 := HS3.out.lt; have h3 := HS3.out.lo; have hz' : w3.heap.size ≤ z := hz; exact ⟨by omega, by omega⟩))).alloc _
    | false =>
      clear y0 y1 y2 y3 y4 y5 y6 y7 y8 yz
      obtain ⟨k0, k1⟩ := HF.out _ HG4.out
      rw [← HWK.out] at k0 k1
      by_cases hD2 : D < 2
      · go_wp2_with fail
        rw [show w4.alloc (.cells #[Value.int .i64 x1.kind, .string x1.name, .string x1.other, .int .i64 x1.n, .int .i64 x1.ty.kind, .slice tp1 x1.ty.args.length tc1, .int .i64 x1.res.kind, .slice rp1 x1.res.args.length rc1, .slice p1 x1.args.length c1] 29) = wk from HWK.out]
        refine (small_any (C := C) t.nodes t b n _ wk (Nat.le_refl _) hf htn ⟨_, by rw [HKK.out], HT00.out.stays (HST.out _ HG4.out)⟩ hCb HS4.out.cur).mono ?_
        rintro e w9 ⟨x1, v, rfl, hx, ⟨tp1, tc1, rp1, rc1, p1, c1, rfl, ht⟩, hc, hg⟩
        have HX1 := Lib.hid hx
        have HT1 := Lib.hid ht
        have HS9 := Lib.hid (HS4.out.step hc hg)
        obtain ⟨⟨r0, r1, r2, r3, r4, r5, r6, r7, r8⟩, rz⟩ := zero9_facts HS9.out.box
        clear hx ht hc hg
        go_wp2_with fail
        refine bodyPost_ret (v := tmV x1 tp1 tc1 rp1 rc1 p1 c1) ?_ rfl ?_
        · rw [results_cell1 rfl]
          go_simp
          all_goals (repeat' apply And.intro) <;> rfl
        · refine HS9.out.fin9 (by have h1 := HX1.out;  omega) (HT1.out.mono (fun z hz _ => ?_))
          have h1 := HS4.out.lt
          have hz' : _ ≤ z := hz
          have h3 := HS4.out.lo
          exact ⟨by omega, by omega⟩
      · obtain ⟨hN, hIH, htd, hLd, hd, hgd, hD9⟩ := HHI.out (by omega)
        subst hN
        have HIH := Lib.hid hIH
        clear hIH
        have hwr : IntKind.i64.wrap (D - 1) = D - 1 := IntWalk.i64_in _ (by omega)
        go_wp2_with fail
        rw [show w4.alloc (.cells #[Value.int .i64 x1.kind, .string x1.name, .string x1.other, .int .i64 x1.n, .int .i64 x1.ty.kind, .slice tp1 x1.ty.args.length tc1, .int .i64 x1.res.kind, .slice rp1 x1.res.args.length rc1, .slice p1 x1.args.length c1] 29) = wk from HWK.out]
        refine (once_any b 3 wk (by decide) (by decide) HS4.out.cur).mono ?_
        rintro e w5 ⟨q2, rfl, hc5, hg5⟩
        have HS5 := Lib.hid (HS4.out.step hc5 hg5)
        have HG5 : Hid (wl.grownBy w5 (some b)) := Lib.hid (grownBy_trans HG4.out hg5)
        clear hc5 hg5 k0 k1
        obtain ⟨k0, k1⟩ := HF.out _ HG5.out
        cases q2 with
        | true =>
          go_wp2_with fail
          refine (any_step (C := C) b d D n (by omega) hD9 hgd HIH.out (HH.out.stays (HST.out _ HG5.out)) ⟨_, by rw [HKK.out], HT00.out.stays (HST.out _ HG5.out)⟩ hf hd htd hLd hCb HS5.out.cur).mono ?_
          rintro e w9 ⟨x1, v, rfl, hx, ⟨tp1, tc1, rp1, rc1, p1, c1, rfl, ht⟩, hc, hg⟩
          have HX1 := Lib.hid hx
          have HT1 := Lib.hid ht
          have HS9 := Lib.hid (HS5.out.step hc hg)
          obtain ⟨⟨r0, r1, r2, r3, r4, r5, r6, r7, r8⟩, rz⟩ := zero9_facts HS9.out.box
          clear hx ht hc hg
          go_wp2_with fail
          refine bodyPost_ret (v := tmV x1 tp1 tc1 rp1 rc1 p1 c1) ?_ rfl ?_
          · rw [results_cell1 rfl]
            go_simp
            all_goals (repeat' apply And.intro) <;> rfl
          · refine HS9.out.fin9 (by have h1 := HX1.out;  omega) (HT1.out.mono (fun z hz _ => ?_))
            have h1 := HS5.out.lt
            have hz' : _ ≤ z := hz
            have h3 := HS5.out.lo
            exact ⟨by omega, by omega⟩
        | false =>
          rcases form_cases hf with rfl | rfl | ⟨ta, tb, rfl, hfa, hfb⟩ | ⟨ta, rfl, hfa⟩
          · obtain rfl : kk = 1 := HKK.out.symm
            go_wp2_with fail
            refine (base_step (C := C) b d D n (by omega) hD9 hgd HIH.out (HH.out.stays (HST.out _ HG5.out)) (t := .mk 1 []) ⟨_, rfl, HT00.out.stays (HST.out _ HG5.out)⟩ hd (by omega) hCb HS5.out.cur).mono ?_
            rintro e w9 ⟨x1, v, rfl, hx, ⟨tp1, tc1, rp1, rc1, p1, c1, rfl, ht⟩, hc, hg⟩
            have HX1 := Lib.hid hx
            have HT1 := Lib.hid ht
            have HS9 := Lib.hid (HS5.out.step hc hg)
            obtain ⟨⟨r0, r1, r2, r3, r4, r5, r6, r7, r8⟩, rz⟩ := zero9_facts HS9.out.box
            clear hx ht hc hg
            go_wp2_with fail
            refine bodyPost_ret (v := tmV x1 tp1 tc1 rp1 rc1 p1 c1) ?_ rfl ?_
            · rw [results_cell1 rfl]
              go_simp
              all_goals (repeat' apply And.intro) <;> rfl
            · refine HS9.out.fin9 (by have h1 := HX1.out;  omega) (HT1.out.mono (fun z hz _ => ?_))
              have h1 := HS5.out.lt
              have hz' : _ ≤ z := hz
              have h3 := HS5.out.lo
              exact ⟨by omega, by omega⟩
          · obtain rfl : kk = 2 := HKK.out.symm
            go_wp2_with fail
            refine (base_step (C := C) b d D n (by omega) hD9 hgd HIH.out (HH.out.stays (HST.out _ HG5.out)) (t := .mk 2 []) ⟨_, rfl, HT00.out.stays (HST.out _ HG5.out)⟩ hd (by omega) hCb HS5.out.cur).mono ?_
            rintro e w9 ⟨x1, v, rfl, hx, ⟨tp1, tc1, rp1, rc1, p1, c1, rfl, ht⟩, hc, hg⟩
            have HX1 := Lib.hid hx
            have HT1 := Lib.hid ht
            have HS9 := Lib.hid (HS5.out.step hc hg)
            obtain ⟨⟨r0, r1, r2, r3, r4, r5, r6, r7, r8⟩, rz⟩ := zero9_facts HS9.out.box
            clear hx ht hc hg
            go_wp2_with fail
            refine bodyPost_ret (v := tmV x1 tp1 tc1 rp1 rc1 p1 c1) ?_ rfl ?_
            · rw [results_cell1 rfl]
              go_simp
              all_goals (repeat' apply And.intro) <;> rfl
            · refine HS9.out.fin9 (by have h1 := HX1.out;  omega) (HT1.out.mono (fun z hz _ => ?_))
              have h1 := HS5.out.lt
              have hz' : _ ≤ z := hz
              have h3 := HS5.out.lo
              exact ⟨by omega, by omega⟩
          · obtain ⟨bo, oo, p0, c0, rfl, hc0, hT0⟩ := HT00.out.at 0 ta rfl
            obtain ⟨_, _, p1', c1', hq1, hc1, hT1⟩ := HT00.out.at 1 tb rfl
            simp only [Option.some.injEq, Addr.mk.injEq, and_true] at hq1
            obtain ⟨rfl, rfl⟩ := hq1
            obtain rfl : kk = 3 := HKK.out.symm
            have hbo : bo < w.heap.size := World.block_lt_of_cell? w _ (hc0 w (Stays.refl _ _)).1
            have HF5 := Lib.hid (fun (W : World) (hW : wl.grownBy W (some b)) => show W.cell? ⟨w.heap.size, 1, none⟩ = some (.slice (some ⟨bo, oo, none⟩) 2 ct) ∧ W.cell? ⟨bo, oo, none⟩ = some (.int .i64 ta.kind) ∧ W.cell? ⟨bo, oo + 1, none⟩ = some (.slice p0 ta.args.length c0) ∧ W.cell? ⟨bo, oo + 2, none⟩ = some (.int .i64 tb.kind) ∧ W.cell? ⟨bo, oo + 2 + 1, none⟩ = some (.slice p1' tb.args.length c1') from by
              have k2 := hc0 W (HST.out W hW)
              have k3 := hc1 W (HST.out W hW)
              exact ⟨(HF.out W hW).2, k2.1, k2.2, k3.1, k3.2⟩)
            have HTA := Lib.hid hT0
            have HTB := Lib.hid hT1
            have HNT : Hid (1 + ta.nodes + tb.nodes ≤ 99 ∧ nodesS ta.args ≤ 100 ∧ nodesS ta.args + 1 = ta.nodes ∧ 1 + ta.nodes + tb.nodes + d + 1 ≤ 100) := Lib.hid (by simp only [Ty.nodes, nodesS] at htd; have := ta.nodes_eq; omega)
            have hp3 := pickS_litG [⟨#[120]⟩, ⟨#[121]⟩] 2 b w5 #[.string ⟨#[120]⟩, .string ⟨#[121]⟩] rfl (by decide) (by decide) rfl HS5.out.cur
            have HP3 := Lib.hid hp3
            clear hc0 hc1 hT0 hT1 hp3
            go_wp2_with fail
            refine HP3.out.mono ?_
            rintro e w6 ⟨nm, hnm, rfl, hc6, hg6⟩
            have HNM : Hid (nm.size ≤ 1) := Lib.hid (by simp at hnm; rcases hnm with rfl | rfl <;> decide)
            have HS6 := Lib.hid (HS5.out.step hc6 hg6)
            have HG6 : Hid (wl.grownBy w6 (some b)) := Lib.hid (grownBy_trans HG5.out hg6)
            have hlo : w.heap.size + 1 < w6.heap.size := by have h1 := HS5.out.lt; have h2 := hg6.size; omega
            clear hnm hc6 hg6 k0 k1
            go_wp2_with fail
            have HSD := Lib.hid (HS6.out.below (Below.refl _ w6).drew)
            have HGD : Hid (wl.grownBy w6.drew (some b)) := Lib.hid (grown_drewB HG6.out)
            have FL0 := Lib.hid trivial
            have FL1 := Lib.hid trivial
            have FL2 := Lib.hid trivial
            go_region_held3 (fun w' => w'.cell? ⟨w.heap.size, 1, none⟩ = some (.slice (some ⟨bo, oo, none⟩) 2 ct) ∧ w'.cell? ⟨bo, oo, none⟩ = some (.int .i64 ta.kind) ∧ w'.cell? ⟨bo, oo + 1, none⟩ = some (.slice p0 ta.args.length c0) ∧ w'.cell? ⟨bo, oo + 2, none⟩ = some (.int .i64 tb.kind) ∧ w'.cell? ⟨bo, oo + 2 + 1, none⟩ = some (.slice p1' tb.args.length c1'))
              (first
                | with_reducible exact HF5.out _ HGD.out
                | with_reducible exact HF5.out _ HG_u1.out
                | with_reducible exact HF5.out _ HG_u2.out
                | with_reducible exact HF5.out _ HG_uz.out
                | with_reducible exact ⟨keep9 (HF5.out _ HG_uz.out).1 (by omega), keep9 (HF5.out _ HG_uz.out).2.1 (by omega), keep9 (HF5.out _ HG_uz.out).2.2.1 (by omega), keep9 (HF5.out _ HG_uz.out).2.2.2.1 (by omega), keep9 (HF5.out _ HG_uz.out).2.2.2.2 (by omega)⟩
                | (go_keep; done))
              (first
                | (clear FL0
                   go_at_call 147
                   refine (with_any (C := C) (t := ta) nm n (HH.out.stays (HST.out _ HGD.out)) ⟨_, rfl, HTA.out.stays (HST.out _ HGD.out)⟩ (by omega) (by have := HNT.out; omega) (by have := HNM.out; omega)).mono ?_
                   rintro e u1 ⟨a2, c2, rfl, hcx, hb⟩
                   have HS_u1 := Lib.hid (HSD.out.below hb)
                   have HG_u1 : Hid (wl.grownBy u1 (some b)) := Lib.hid (grown_below HGD.out HGD.out.size hb)
                   have HL_u1 := Lib.hid hb.size
                   have HCX : Hid (CX u1 (fun z => C z ∨ w6.heap.size ≤ z) (L ++ [⟨nm, ta, n⟩]) (.slice (some a2) (L.length + 1) c2)) := Lib.hid (hcx.mono (fun z hz _ => Or.elim hz Or.inl (fun hy => Or.inr hy)))
                   clear  hb hcx)
                | (clear FL1
                   go_at_call 92
                   refine (gen_longer HIH.out (fun z => C z ∨ w6.heap.size ≤ z) L ⟨nm, ta, n⟩ a2 c2 tb _ n u1 HCX.out ⟨_, rfl, (HTB.out.stays (HST.out _ HG_u1.out)).mono (fun z hz _ => Or.inl hz)⟩ hfb (by have := HNT.out; omega) (by omega) (fun z hz => Or.elim hz (hCb z) (fun hy => by have hy' : w6.heap.size ≤ z := hy; omega)) HS_u1.out.cur).mono ?_
                   rintro e u2 ⟨x1, v, rfl, hx, ⟨tp1, tc1, rp1, rc1, p1, c1, rfl, ht⟩, hc, hg⟩
                   have HX1 := Lib.hid hx
                   have HT1 := ht.mono (C' := fun z => w6.heap.size ≤ z) (fun z hz _ => Nat.le_trans (by have := HL_u1.out; have e : w6.drew.heap.size = w6.heap.size := rfl; omega) hz)
                   have HS_u2 := Lib.hid (HS_u1.out.step hc hg)
                   have HG_u2 : Hid (wl.grownBy u2 (some b)) := Lib.hid (grownBy_trans HG_u1.out hg)
                   have HL_u2 := Lib.hid hg.size
                   have HTH1 := Lib.hid HT1
                   clear HT1 hx ht hc hg)
                | (clear FL2
                   go_at_call 146
                   have HT1 := HTH1.out
                   refine (lam_any (C := (fun z => C z ∨ w6.heap.size ≤ z)) nm (x := x1) (t := ta) ⟨_, rfl, (HTA.out.stays (HST.out _ HG_u2.out)).mono (fun z hz _ => Or.inl hz)⟩ ⟨_, _, _, _, _, _, rfl, HT1.mono (fun z hz _ => Or.inr hz)⟩ (by have := HNT.out; omega) (by have := HX1.out; omega)).mono ?_
                   rintro e uz ⟨tp, tc, rp, rc, p, cc, xs, rfl, hN, hb⟩
                   have HN := Lib.hid hN
                   have HS_uz := Lib.hid (HS_u2.out.below hb)
                   have HG_uz : Hid (wl.grownBy uz (some b)) := Lib.hid (grown_below HG_u2.out HG_u2.out.size hb)
                   have HAL : Hid (u2.heap.size ≤ u2.heap.size) := Lib.hid (Nat.le_refl _)
                   obtain ⟨⟨r0, r1, r2, r3, r4, r5, r6, r7, r8⟩, rz⟩ := zero9_facts HS_uz.out.box
                   clear hN hb HT1))
            go_wp2_with fail
            refine bodyPost_ret (v := tmV (.mk 6 nm ⟨#[]⟩ 0 ta zTy [x1]) tp tc rp rc p cc) ?_ rfl ?_
            · rw [results_cell1 rfl]
              go_simp
              all_goals (repeat' apply And.intro) <;> rfl
            · refine HS_uz.out.fin9 ?_ (HN.out.tm.mono (fun z hz _ => ?_))
              · have h0 := HNM.out
                have h1 := HX1.out
                have h4 := HNT.out
                have e1 : (⟨#[]⟩ : ByteArray).size = 0 := rfl
                have e2 : nodesS zTy.args = 0 := rfl
                simp only [Tm.wt, wtS, gB, e1, e2]
                omega
              · have h1 := HS_u2.out.lt
                have h2 := HAL.out
                have hz' : _ ≤ z := hz
                have h3 := HS_u2.out.lo
                exact ⟨by omega, by omega⟩
          · obtain ⟨bo, oo, p0, c0, rfl, hc0, hT0⟩ := HT00.out.at 0 ta rfl
            obtain rfl : kk = 4 := HKK.out.symm
            have HF5 := Lib.hid (fun (W : World) (hW : wl.grownBy W (some b)) => show W.cell? ⟨w.heap.size, 1, none⟩ = some (.slice (some ⟨bo, oo, none⟩) 1 ct) ∧ W.cell? ⟨bo, oo, none⟩ = some (.int .i64 ta.kind) ∧ W.cell? ⟨bo, oo + 1, none⟩ = some (.slice p0 ta.args.length c0) from by
              have k2 := hc0 W (HST.out W hW)
              simp only [Nat.zero_mul, Nat.add_zero] at k2
              exact ⟨(HF.out W hW).2, k2.1, k2.2⟩)
            have HTA := Lib.hid hT0
            have HNT : Hid (ta.nodes + d ≤ 100) := Lib.hid (by simp only [Ty.nodes, nodesS] at htd; omega)
            clear hc0 hT0
            obtain ⟨-, m0, m1⟩ := HF5.out _ HG5.out
            go_wp2_with fail
            refine (base_any (C := C) (t := ta) (v := .agg #[.int .i64 ta.kind, .slice p0 ta.args.length c0]) ⟨_, rfl, HTA.out.stays (HST.out _ HG5.out)⟩).mono ?_
            rintro e w6 ⟨q, -, rfl, hb⟩
            have HS6 := Lib.hid (HS5.out.below hb)
            have HG6 : Hid (wl.grownBy w6 (some b)) := Lib.hid (grown_below HG5.out HG5.out.size hb)
            clear hb k0 k1 m0 m1
            cases q with
            | true =>
              go_wp2_with fail
              refine (once_any b 4 w6 (by decide) (by decide) HS6.out.cur).mono ?_
              rintro e w7 ⟨q3, rfl, hc, hg⟩
              have HS7 := Lib.hid (HS6.out.step hc hg)
              have HG7 : Hid (wl.grownBy w7 (some b)) := Lib.hid (grownBy_trans HG6.out hg)
              clear hc hg
              cases q3 with
              | true =>
                obtain ⟨k1, m0, m1⟩ := HF5.out _ HG7.out
                go_wp2_with fail
                refine (HIH.out C L a c ta _ _ w7 (HH.out.stays (HST.out _ HG7.out)) ⟨_, rfl, HTA.out.stays (HST.out _ HG7.out)⟩ hfa (by have := HNT.out; omega) (by omega) hCb HS7.out.cur).mono ?_
                rintro e w8 ⟨x1, v, rfl, hx, ⟨tp1, tc1, rp1, rc1, p1, c1, rfl, ht⟩, hc, hg⟩
                have HX1 := Lib.hid hx
                have HS8 := Lib.hid (HS7.out.step hc hg)
                have hal := al_below w8 (.cells ([Value.int .i64 x1.kind, .string x1.name, .string x1.other, .int .i64 x1.n, .int .i64 x1.ty.kind, .slice tp1 x1.ty.args.length tc1, .int .i64 x1.res.kind, .slice rp1 x1.res.args.length rc1, .slice p1 x1.args.length c1]).toArray 29)
                have HC := Lib.hid (node_any (C := fun z => w7.heap.size ≤ z) (ts := [x1]) 13 (dm_lit (ts := [x1]) (blk_new w8 _) (ms_one (ht.stays (.of_below hal))) hg.size (by simp) (by simp)) (by simp only [wtS]; omega))
                have HAL := Lib.hid hal
                clear hx ht hc hg hal k1 m0 m1
                go_wp2_with fail
                refine HC.out.mono ?_
                rintro e uz ⟨tp, tc, rp, rc, p, cc, xs, rfl, hN, hb⟩
                have HN := Lib.hid hN
                have HS_uz := Lib.hid ((HS8.out.below HAL.out).below hb)
                obtain ⟨⟨r0, r1, r2, r3, r4, r5, r6, r7, r8⟩, rz⟩ := zero9_facts HS_uz.out.box
                clear hN hb
                go_wp2_with fail
                refine bodyPost_ret (v := tmV (.mk 13 ⟨#[]⟩ ⟨#[]⟩ 0 zTy zTy [x1]) tp tc rp rc p cc) ?_ rfl ?_
                · rw [results_cell1 rfl]
                  go_simp
                  all_goals (repeat' apply And.intro) <;> rfl
                · refine HS_uz.out.fin9 ?_ (HN.out.tm.mono (fun z hz _ => ?_))
                  · have h1 := HX1.out
                    have e1 : (⟨#[]⟩ : ByteArray).size = 0 := rfl
                    have e2 : nodesS zTy.args = 0 := rfl
                    simp only [Tm.wt, wtS, gB, e1, e2]
                    omega
                  · have h1 := HS8.out.lt
                    have h2 := HAL.out.size
                    have hz' : _ ≤ z := hz
                    have h3 := HS8.out.lo
                    exact ⟨by omega, by omega⟩
              | false =>
                obtain ⟨k1, m0, m1⟩ := HF5.out _ HG7.out
                go_wp2_with fail
                refine (HIH.out C L a c ta _ _ w7 (HH.out.stays (HST.out _ HG7.out)) ⟨_, rfl, HTA.out.stays (HST.out _ HG7.out)⟩ hfa (by have := HNT.out; omega) (by omega) hCb HS7.out.cur).mono ?_
                rintro e w8 ⟨x1, v, rfl, hx, ⟨tp1, tc1, rp1, rc1, p1, c1, rfl, ht⟩, hc, hg⟩
                have HX1 := Lib.hid hx
                have HS8 := Lib.hid (HS7.out.step hc hg)
                have hal := al_below w8 (.cells ([Value.int .i64 x1.kind, .string x1.name, .string x1.other, .int .i64 x1.n, .int .i64 x1.ty.kind, .slice tp1 x1.ty.args.length tc1, .int .i64 x1.res.kind, .slice rp1 x1.res.args.length rc1, .slice p1 x1.args.length c1]).toArray 29)
                have HC := Lib.hid (node_any (C := fun z => w7.heap.size ≤ z) (ts := [x1]) 10 (dm_lit (ts := [x1]) (blk_new w8 _) (ms_one (ht.stays (.of_below hal))) hg.size (by simp) (by simp)) (by simp only [wtS]; omega))
                have HAL := Lib.hid hal
                clear hx ht hc hg hal k1 m0 m1
                go_wp2_with fail
                refine HC.out.mono ?_
                rintro e uz ⟨tp, tc, rp, rc, p, cc, xs, rfl, hN, hb⟩
                have HN := Lib.hid hN
                have HS_uz := Lib.hid ((HS8.out.below HAL.out).below hb)
                obtain ⟨⟨r0, r1, r2, r3, r4, r5, r6, r7, r8⟩, rz⟩ := zero9_facts HS_uz.out.box
                clear hN hb
                go_wp2_with fail
                refine bodyPost_ret (v := tmV (.mk 10 ⟨#[]⟩ ⟨#[]⟩ 0 zTy zTy [x1]) tp tc rp rc p cc) ?_ rfl ?_
                · rw [results_cell1 rfl]
                  go_simp
                  all_goals (repeat' apply And.intro) <;> rfl
                · refine HS_uz.out.fin9 ?_ (HN.out.tm.mono (fun z hz _ => ?_))
                  · have h1 := HX1.out
                    have e1 : (⟨#[]⟩ : ByteArray).size = 0 := rfl
                    have e2 : nodesS zTy.args = 0 := rfl
                    simp only [Tm.wt, wtS, gB, e1, e2]
                    omega
                  · have h1 := HS8.out.lt
                    have h2 := HAL.out.size
                    have hz' : _ ≤ z := hz
                    have h3 := HS8.out.lo
                    exact ⟨by omega, by omega⟩
            | false =>
              obtain ⟨k1, m0, m1⟩ := HF5.out _ HG6.out
              go_wp2_with fail
              refine (HIH.out C L a c ta _ _ w6 (HH.out.stays (HST.out _ HG6.out)) ⟨_, rfl, HTA.out.stays (HST.out _ HG6.out)⟩ hfa (by have := HNT.out; omega) (by omega) hCb HS6.out.cur).mono ?_
              rintro e w8 ⟨x1, v, rfl, hx, ⟨tp1, tc1, rp1, rc1, p1, c1, rfl, ht⟩, hc, hg⟩
              have HX1 := Lib.hid hx
              have HS8 := Lib.hid (HS6.out.step hc hg)
              have hal := al_below w8 (.cells ([Value.int .i64 x1.kind, .string x1.name, .string x1.other, .int .i64 x1.n, .int .i64 x1.ty.kind, .slice tp1 x1.ty.args.length tc1, .int .i64 x1.res.kind, .slice rp1 x1.res.args.length rc1, .slice p1 x1.args.length c1]).toArray 29)
              have HC := Lib.hid (node_any (C := fun z => w6.heap.size ≤ z) (ts := [x1]) 10 (dm_lit (ts := [x1]) (blk_new w8 _) (ms_one (ht.stays (.of_below hal))) hg.size (by simp) (by simp)) (by simp only [wtS]; omega))
              have HAL := Lib.hid hal
              clear hx ht hc hg hal k1 m0 m1
              go_wp2_with fail
              refine HC.out.mono ?_
              rintro e uz ⟨tp, tc, rp, rc, p, cc, xs, rfl, hN, hb⟩
              have HN := Lib.hid hN
              have HS_uz := Lib.hid ((HS8.out.below HAL.out).below hb)
              obtain ⟨⟨r0, r1, r2, r3, r4, r5, r6, r7, r8⟩, rz⟩ := zero9_facts HS_uz.out.box
              clear hN hb
              go_wp2_with fail
              refine bodyPost_ret (v := tmV (.mk 10 ⟨#[]⟩ ⟨#[]⟩ 0 zTy zTy [x1]) tp tc rp rc p cc) ?_ rfl ?_
              · rw [results_cell1 rfl]
                go_simp
                all_goals (repeat' apply And.intro) <;> rfl
              · refine HS_uz.out.fin9 ?_ (HN.out.tm.mono (fun z hz _ => ?_))
                · have h1 := HX1.out
                  have e1 : (⟨#[]⟩ : ByteArray).size = 0 := rfl
                  have e2 : nodesS zTy.args = 0 := rfl
                  simp only [Tm.wt, wtS, gB, e1, e2]
                  omega
                · have h1 := HS8.out.lt
                  have h2 := HAL.out.size
                  have hz' : _ ≤ z := hz
                  have h3 := HS8.out.lo
                  exact ⟨by omega, by omega⟩
end Go.Proofs.YtfeijijeohfpgaaGreatDoor
namespace Go.Proofs.YtfeijijeohfpgaaGreatDoor
open Go Go.RowKit

theorem gB_ge (d : Nat) : 100 ≤ gB d := by
  cases d with
  | zero => exact Nat.le_refl _
  | succ d => simp only [gB]; omega
theorem gB_le : ∀ d : Nat, d ≤ 5 → gB d ≤ 100000
  | 0, _ => by decide
  | 1, _ => by decide
  | 2, _ => by decide
  | 3, _ => by decide
  | 4, _ => by decide
  | 5, _ => by decide
  | d + 6, h => by omega
theorem gen_all (b : Nat) : ∀ (d : Nat) (D : Int), D ≤ d + 1 → d ≤ 6 → GenH b d D
  | 0, D, hD, _ => by
    intro C L a c t vt n W hcx ht hf hn hL hCb hc
    exact gen_step (C := C) b 0 (gB 0) D n (by decide) (fun h => by omega) hcx ht hf (by omega) (by omega) hCb hc
  | d + 1, D, hD, h5 => by
    intro C L a c t vt n W hcx ht hf hn hL hCb hc
    exact gen_step (C := C) b d (gB (d + 1)) D n (gB_ge (d + 1)) (fun _ => ⟨rfl, gen_all b d (D - 1) (by omega) (by omega), by omega, by omega, by omega, gB_le d (by omega), by omega⟩) hcx ht hf (by omega) (by omega) hCb hc
end Go.Proofs.YtfeijijeohfpgaaGreatDoor
namespace Go.Proofs.YtfeijijeohfpgaaGreatDoor
open Go Go.RowKit

def hd (ps : List (List UInt8)) : List UInt8 := ps.headD []
def txN (k : Int) (a o : List UInt8) (n : Int) (ty res : List UInt8) (ps : List (List UInt8)) : List UInt8 :=
  if k = 1 then a
  else if k = 2 then Lib.itoa n
  else if k = 3 then [35, if n = 1 then 116 else 102]
  else if k = 4 then (if ps.length = 1 then 40 :: 33 :: (hd ps ++ [41]) else 40 :: (hd ps ++ (a ++ (hd ps.tail ++ [41]))))
  else if k = 10 then 60 :: (hd ps ++ [62])
  else if k = 11 then 126 :: hd ps
  else if k = 5 then 40 :: 105 :: 102 :: 32 :: (Lib.join ps [32] ++ [41])
  else if k = 6 then 40 :: 92 :: (a ++ 58 :: (ty ++ 46 :: (hd ps ++ [41])))
  else if k = 7 then 40 :: (Lib.join ps [32] ++ [41])
  else if k = 8 then 40 :: 108 :: 101 :: 116 :: 32 :: (a ++ 61 :: (Lib.join ps [32] ++ [41]))
  else if k = 9 then 40 :: 114 :: 101 :: 99 :: 32 :: (a ++ 32 :: (o ++ 58 :: (ty ++ 62 :: (res ++ 46 :: (hd ps ++ [41])))))
  else if k = 12 then 40 :: 114 :: 117 :: 110 :: 32 :: (hd ps ++ [41])
  else 40 :: 108 :: 105 :: 102 :: 116 :: 32 :: (hd ps ++ [41])
mutual
def Tm.text : Tm → List UInt8
  | .mk k a o n ty res ts => txN k a.data.toList o.data.toList n ty.text res.text (textsM ts)
def textsM : List Tm → List (List UInt8)
  | [] => []
  | t :: ts => t.text :: textsM ts
end
theorem textsM_map (ts : List Tm) : textsM ts = ts.map Tm.text := by
  induction ts with
  | nil => rfl
  | cons t ts ih => rw [textsM, ih]; rfl
theorem textsM_len (ts : List Tm) : (textsM ts).length = ts.length := by rw [textsM_map, List.length_map]
def sumL (ps : List (List UInt8)) : Nat := (ps.map List.length).sum
theorem hd_le (ps : List (List UInt8)) : (hd ps).length ≤ sumL ps := by
  cases ps <;> simp [hd, sumL]
theorem tl_le (ps : List (List UInt8)) : (hd ps).length + (hd ps.tail).length ≤ sumL ps := by
  match ps with
  | [] => simp [hd, sumL]
  | [a] => simp [hd, sumL]
  | a :: b :: r => simp [hd, sumL]
theorem joinTail_len (r : List (List UInt8)) (sep : List UInt8) : (Lib.joinTail sep r).length = sumL r + r.length * sep.length := by
  induction r with
  | nil => simp [Lib.joinTail, sumL]
  | cons x r ih =>
    simp only [Lib.joinTail, sumL, List.map_cons, List.flatten_cons, List.length_append, List.sum_cons, List.length_cons] at ih ⊢
    rw [ih, Nat.add_mul]
    omega
theorem join_len (ps : List (List UInt8)) : (Lib.join ps [32]).length ≤ sumL ps + ps.length := by
  cases ps with
  | nil => simp [Lib.join_nil]
  | cons x r =>
    rw [Lib.join_cons, List.length_append, joinTail_len]
    simp [sumL]
    omega
theorem txN_le {k : Int} {a o : List UInt8} {n : Int} {ty res : List UInt8} {ps : List (List UInt8)} (hn : 0 ≤ n ∧ n ≤ 10006) (hp : ps.length ≤ 3) :
    (txN k a o n ty res ps).length ≤ 24 + a.length + o.length + (if k = 6 ∨ k = 9 then ty.length else 0) + (if k = 9 then res.length else 0) + sumL ps := by
  have h1 := hd_le ps
  have h2 := tl_le ps
  have h3 := join_len ps
  have h4 := Lib.itoa_length_le n (by omega) (by omega)
  unfold txN
  by_cases k1 : k = 1
  · rw [if_pos k1]
    omega
  rw [if_neg k1]
  by_cases k2 : k = 2
  · rw [if_pos k2]
    omega
  rw [if_neg k2]
  by_cases k3 : k = 3
  · rw [if_pos k3]
    simp only [List.length_cons, List.length_nil]
    omega
  rw [if_neg k3]
  by_cases k4 : k = 4
  · rw [if_pos k4]
    by_cases l1 : ps.length = 1
    · rw [if_pos l1]
      simp only [List.length_cons, List.length_append, List.length_nil]
      omega
    · rw [if_neg l1]
      simp only [List.length_cons, List.length_append, List.length_nil]
      omega
  rw [if_neg k4]
  by_cases k10 : k = 10
  · rw [if_pos k10]
    simp only [List.length_cons, List.length_append, List.length_nil]
    omega
  rw [if_neg k10]
  by_cases k11 : k = 11
  · rw [if_pos k11, List.length_cons]
    omega
  rw [if_neg k11]
  by_cases k5 : k = 5
  · rw [if_pos k5]
    simp only [List.length_cons, List.length_append, List.length_nil]
    omega
  rw [if_neg k5]
  by_cases k6 : k = 6
  · rw [if_pos k6, if_pos (Or.inl k6)]
    simp only [List.length_cons, List.length_append, List.length_nil]
    omega
  rw [if_neg k6]
  by_cases k7 : k = 7
  · rw [if_pos k7]
    simp only [List.length_cons, List.length_append, List.length_nil]
    omega
  rw [if_neg k7]
  by_cases k8 : k = 8
  · rw [if_pos k8]
    simp only [List.length_cons, List.length_append, List.length_nil]
    omega
  rw [if_neg k8]
  by_cases k9 : k = 9
  · rw [if_pos k9, if_pos (Or.inr k9), if_pos k9]
    simp only [List.length_cons, List.length_append, List.length_nil]
    omega
  rw [if_neg k9]
  by_cases k12 : k = 12
  · rw [if_pos k12]
    simp only [List.length_cons, List.length_append, List.length_nil]
    omega
  rw [if_neg k12]
  simp only [List.length_cons, List.length_append, List.length_nil]
  omega
theorem NodeOk.texts {t : Tm} (hf : t.FieldsOk) (ha : (t.args.length : Int) = t.arity) : (0 ≤ t.n ∧ t.n ≤ 10006) ∧ t.args.length ≤ 3 ∧ ((t.kind = 6 ∨ t.kind = 9) → t.ty.valid = true) ∧ (t.kind = 9 → t.res.valid = true) := by
  refine ⟨?_, ?_, hf.ty1.1, hf.res1.1⟩
  · have h := hf.n
    unfold Tm.most at h
    split at h
    · exact h
    · split at h <;> omega
  · have h := (arK_range t.kind _ (opAr_range t.name.toList)).2
    have h2 : t.arity ≤ 3 := h
    omega
mutual
theorem textM_le : ∀ (t : Tm), t.IsT → t.text.length ≤ 32 * (1 + t.wt)
  | .mk k a o n ty res ts, h => by
    obtain ⟨h1, h2, h3⟩ := (Tm.IsT_eq _).1 h
    have hs := textsM_le ts h1
    obtain ⟨q1, q2, q3, q4⟩ := NodeOk.texts h2 h3
    have hl := txN_le (k := k) (a := a.data.toList) (o := o.data.toList) (n := n) (ty := ty.text) (res := res.text) (ps := textsM ts) q1 (by rw [textsM_len]; exact q2)
    have e1 : a.data.toList.length = a.size := rfl
    have e2 : o.data.toList.length = o.size := rfl
    have t1 := ty.nodes_eq
    have t2 := res.nodes_eq
    have l1 : (if k = 6 ∨ k = 9 then ty.text.length else 0) ≤ 3 * (1 + nodesS ty.args) := by
      split
      · rename_i hk
        have hv := (valid_iff ty).1 (q3 hk)
        have := text_le _ ty (Nat.le_refl _) hv.2.2
        omega
      · omega
    have l2 : (if k = 9 then res.text.length else 0) ≤ 3 * (1 + nodesS res.args) := by
      split
      · rename_i hk
        have hv := (valid_iff res).1 (q4 hk)
        have := text_le _ res (Nat.le_refl _) hv.2.2
        omega
      · omega
    simp only [Tm.text, Tm.wt]
    omega
theorem textsM_le : ∀ (ts : List Tm), IsTS ts → sumL (textsM ts) ≤ 32 * wtS ts
  | [], _ => by simp [textsM, sumL]
  | t :: ts, h => by
    have h1 := textM_le t h.1
    have h2 := textsM_le ts h.2
    simp only [textsM, sumL, List.map_cons, List.sum_cons, wtS] at h2 ⊢
    omega
end
end Go.Proofs.YtfeijijeohfpgaaGreatDoor
namespace Go.Proofs.YtfeijijeohfpgaaGreatDoor
open Go Go.RowKit

abbrev E0 : ByteArray := ⟨#[]⟩
abbrev Z0 : Ty := .mk 0 []
inductive Shape : Tm → Prop where
  | var (a : ByteArray) (h : Nm a) : Shape (.mk 1 a E0 0 Z0 Z0 [])
  | int (n : Int) (h0 : 0 ≤ n) (h1 : n ≤ 10006) : Shape (.mk 2 E0 E0 n Z0 Z0 [])
  | bool (n : Int) (h : n = 0 ∨ n = 1) : Shape (.mk 3 E0 E0 n Z0 Z0 [])
  | op1 (a : ByteArray) (ha : a.toList = [33]) (x : Tm) (hx : x.IsT) : Shape (.mk 4 a E0 0 Z0 Z0 [x])
  | op2 (a : ByteArray) (c : UInt8) (ha : a.toList = [c]) (hc : opAr [c] = 2) (x y : Tm) (hx : x.IsT) (hy : y.IsT) : Shape (.mk 4 a E0 0 Z0 Z0 [x, y])
  | cond (x y z : Tm) (hx : x.IsT) (hy : y.IsT) (hz : z.IsT) : Shape (.mk 5 E0 E0 0 Z0 Z0 [x, y, z])
  | lam (a : ByteArray) (h : Nm a) (ty : Ty) (ht : ty.valid = true) (x : Tm) (hx : x.IsT) : Shape (.mk 6 a E0 0 ty Z0 [x])
  | app (x y : Tm) (hx : x.IsT) (hy : y.IsT) : Shape (.mk 7 E0 E0 0 Z0 Z0 [x, y])
  | bind (a : ByteArray) (h : Nm a) (x y : Tm) (hx : x.IsT) (hy : y.IsT) : Shape (.mk 8 a E0 0 Z0 Z0 [x, y])
  | fix (a b : ByteArray) (ha : Nm a) (hb : Nm b) (hab : a ≠ b) (ty res : Ty) (ht : ty.valid = true) (hr : res.valid = true) (x : Tm) (hx : x.IsT) : Shape (.mk 9 a b 0 ty res [x])
  | quote (x : Tm) (hx : x.IsT) : Shape (.mk 10 E0 E0 0 Z0 Z0 [x])
  | splice (x : Tm) (hx : x.IsT) : Shape (.mk 11 E0 E0 0 Z0 Z0 [x])
  | run (x : Tm) (hx : x.IsT) : Shape (.mk 12 E0 E0 0 Z0 Z0 [x])
  | lift (x : Tm) (hx : x.IsT) : Shape (.mk 13 E0 E0 0 Z0 Z0 [x])
theorem emp_eq {a : ByteArray} (h : a.toList = []) : a = E0 := by
  rw [ByteArray.toList_eq] at h
  apply ByteArray.ext
  exact Array.toList_inj.1 h
theorem zero_eq {t : Ty} (h : zeroT t) : t = Z0 := by
  obtain ⟨k, ts⟩ := t
  obtain ⟨h1, h2⟩ := h
  simp only [Ty.kind_mk, Ty.args_mk] at h1 h2
  rw [h1, List.eq_nil_of_length_eq_zero h2]
theorem one_of {ts : List Tm} (h : ts.length = 1) : ∃ x, ts = [x] := by
  match ts, h with
  | [x], _ => exact ⟨x, rfl⟩
theorem two_of {ts : List Tm} (h : ts.length = 2) : ∃ x y, ts = [x, y] := by
  match ts, h with
  | [x, y], _ => exact ⟨x, y, rfl⟩
theorem three_of {ts : List Tm} (h : ts.length = 3) : ∃ x y z, ts = [x, y, z] := by
  match ts, h with
  | [x, y, z], _ => exact ⟨x, y, z, rfl⟩
theorem opAr_one {l : List UInt8} (h : opAr l = 1) : l = [33] := by
  unfold opAr at h
  repeat' split at h
  all_goals first | assumption | omega
theorem opAr_two {l : List UInt8} (h : opAr l = 2) : ∃ c, l = [c] ∧ opAr [c] = 2 := by
  have h0 := h
  unfold opAr at h
  repeat' split at h
  all_goals first | omega | exact ⟨_, by assumption, by decide⟩
theorem shape {t : Tm} (h : t.IsT) : Shape t := by
  obtain ⟨hs, hf, ha⟩ := (Tm.IsT_eq t).1 h
  obtain ⟨k, a, b, n, ty, res, ts⟩ := t
  have hnm := hf.names
  have hn := hf.n
  have hty := hf.ty2
  have hres := hf.res2
  have hv1 := hf.ty1
  have hv2 := hf.res1
  simp only [Tm.arity, Tm.kind, Tm.name, Tm.n, Tm.ty, Tm.res, Tm.args, Tm.most] at ha hn hty hres hv1 hv2 hs
  by_cases hk : k < 1 ∨ 13 < k
  · exfalso
    have : arK k (opAr a.toList) = -1 := by
      unfold arK
      rw [if_neg (by omega), if_neg (by omega), if_neg (by omega), if_neg (by omega), if_neg (by omega), if_neg (by omega), if_neg (by omega), if_neg (by omega), if_neg (by omega), if_neg (by omega), if_neg (by omega), if_neg (by omega), if_neg (by omega)]
    omega
  rcases (show k = 1 ∨ k = 2 ∨ k = 3 ∨ k = 4 ∨ k = 5 ∨ k = 6 ∨ k = 7 ∨ k = 8 ∨ k = 9 ∨ k = 10 ∨ k = 11 ∨ k = 12 ∨ k = 13 by omega) with rfl | rfl | rfl | rfl | rfl | rfl | rfl | rfl | rfl | rfl | rfl | rfl | rfl
  · -- 1
    have hl : ts = [] := by simp only [arK] at ha; simp at ha; exact ha
    have hn0 : n = 0 := by simp at hn; omega
    have z1 := zero_eq (hty.resolve_left (by decide))
    have z2 := zero_eq (hres.resolve_left (by decide))
    obtain ⟨h1, h2⟩ := (names_1 (by simp [Tm.kind]) (by simp [Tm.kind])).1 hnm
    have e2 := emp_eq h2
    subst hl hn0 z1 z2
    simp only [Tm.name, Tm.other] at h1 e2
    subst e2
    exact .var a h1
  · -- 2
    have hl : ts = [] := by simp only [arK] at ha; simp at ha; exact ha
    have z1 := zero_eq (hty.resolve_left (by decide))
    have z2 := zero_eq (hres.resolve_left (by decide))
    obtain ⟨h1, h2⟩ := (names_0 (by simp [Tm.kind]) (by simp [Tm.kind]) (by simp [Tm.kind])).1 hnm
    have e1 := emp_eq h1
    have e2 := emp_eq h2
    subst hl z1 z2
    simp only [Tm.name, Tm.other] at e1 e2
    subst e1 e2
    simp at hn
    exact .int n hn.1 hn.2
  · -- 3
    have hl : ts = [] := by simp only [arK] at ha; simp at ha; exact ha
    have z1 := zero_eq (hty.resolve_left (by decide))
    have z2 := zero_eq (hres.resolve_left (by decide))
    obtain ⟨h1, h2⟩ := (names_0 (by simp [Tm.kind]) (by simp [Tm.kind]) (by simp [Tm.kind])).1 hnm
    have e1 := emp_eq h1
    have e2 := emp_eq h2
    subst hl z1 z2
    simp only [Tm.name, Tm.other] at e1 e2
    subst e1 e2
    simp at hn
    exact .bool n (by omega)
  · -- 4
    have hn0 : n = 0 := by simp at hn; omega
    have z1 := zero_eq (hty.resolve_left (by decide))
    have z2 := zero_eq (hres.resolve_left (by decide))
    obtain ⟨h1, h2⟩ := (names_4 (by simp [Tm.kind])).1 hnm
    have e2 := emp_eq h2
    subst hn0 z1 z2
    simp only [Tm.name, Tm.other] at h1 e2
    subst e2
    have hr := opAr_range a.toList
    have ha2 : (ts.length : Int) = opAr a.toList := by rw [ha]; simp [arK]
    rcases (show ts.length = 1 ∨ ts.length = 2 by omega) with hl | hl
    · obtain ⟨x, rfl⟩ := one_of hl
      obtain ⟨hx, -⟩ := hs
      exact .op1 a (opAr_one (by rw [← ha2, hl]; rfl)) x hx
    · obtain ⟨x, y, rfl⟩ := two_of hl
      obtain ⟨hx, hy, -⟩ := hs
      obtain ⟨c, hc, hc2⟩ := opAr_two (l := a.toList) (by rw [← ha2, hl]; rfl)
      exact .op2 a c hc hc2 x y hx hy
  · -- 5
    have hl : ts.length = 3 := by simp only [arK] at ha; simp at ha; omega
    obtain ⟨x, y, z, rfl⟩ := three_of hl
    obtain ⟨hx, hy, hz, -⟩ := hs
    have hn0 : n = 0 := by simp at hn; omega
    have z1 := zero_eq (hty.resolve_left (by decide))
    have z2 := zero_eq (hres.resolve_left (by decide))
    obtain ⟨h1, h2⟩ := (names_0 (by simp [Tm.kind]) (by simp [Tm.kind]) (by simp [Tm.kind])).1 hnm
    have e1 := emp_eq h1
    have e2 := emp_eq h2
    subst hn0 z1 z2
    simp only [Tm.name, Tm.other] at e1 e2
    subst e1 e2
    exact .cond x y z hx hy hz
  · -- 6
    have hl : ts.length = 1 := by simp only [arK] at ha; simp at ha; omega
    obtain ⟨x, rfl⟩ := one_of hl
    obtain ⟨hx, -⟩ := hs
    have hn0 : n = 0 := by simp at hn; omega
    have z2 := zero_eq (hres.resolve_left (by decide))
    obtain ⟨h1, h2⟩ := (names_1 (by simp [Tm.kind]) (by simp [Tm.kind])).1 hnm
    have e2 := emp_eq h2
    have hv := hv1.1 (Or.inl rfl)
    subst hn0 z2
    simp only [Tm.name, Tm.other] at h1 e2
    subst e2
    exact .lam a h1 ty hv x hx
  · -- 7
    have hl : ts.length = 2 := by simp only [arK] at ha; simp at ha; omega
    obtain ⟨x, y, rfl⟩ := two_of hl
    obtain ⟨hx, hy, -⟩ := hs
    have hn0 : n = 0 := by simp at hn; omega
    have z1 := zero_eq (hty.resolve_left (by decide))
    have z2 := zero_eq (hres.resolve_left (by decide))
    obtain ⟨h1, h2⟩ := (names_0 (by simp [Tm.kind]) (by simp [Tm.kind]) (by simp [Tm.kind])).1 hnm
    have e1 := emp_eq h1
    have e2 := emp_eq h2
    subst hn0 z1 z2
    simp only [Tm.name, Tm.other] at e1 e2
    subst e1 e2
    exact .app x y hx hy
  · -- 8
    have hl : ts.length = 2 := by simp only [arK] at ha; simp at ha; omega
    obtain ⟨x, y, rfl⟩ := two_of hl
    obtain ⟨hx, hy, -⟩ := hs
    have hn0 : n = 0 := by simp at hn; omega
    have z1 := zero_eq (hty.resolve_left (by decide))
    have z2 := zero_eq (hres.resolve_left (by decide))
    obtain ⟨h1, h2⟩ := (names_1 (by simp [Tm.kind]) (by simp [Tm.kind])).1 hnm
    have e2 := emp_eq h2
    subst hn0 z1 z2
    simp only [Tm.name, Tm.other] at h1 e2
    subst e2
    exact .bind a h1 x y hx hy
  · -- 9
    have hl : ts.length = 1 := by simp only [arK] at ha; simp at ha; omega
    obtain ⟨x, rfl⟩ := one_of hl
    obtain ⟨hx, -⟩ := hs
    have hn0 : n = 0 := by simp at hn; omega
    obtain ⟨h1, h2, h3⟩ := (names_9 (by simp [Tm.kind]) (by simp [Tm.kind]) (by simp [Tm.kind])).1 hnm
    have hv := hv1.1 (Or.inr rfl)
    have hw := hv2.1 rfl
    subst hn0
    exact .fix a b h1 h2 h3 ty res hv hw x hx
  · -- 10
    have hl : ts.length = 1 := by simp only [arK] at ha; simp at ha; omega
    obtain ⟨x, rfl⟩ := one_of hl
    obtain ⟨hx, -⟩ := hs
    have hn0 : n = 0 := by simp at hn; omega
    have z1 := zero_eq (hty.resolve_left (by decide))
    have z2 := zero_eq (hres.resolve_left (by decide))
    obtain ⟨h1, h2⟩ := (names_0 (by simp [Tm.kind]) (by simp [Tm.kind]) (by simp [Tm.kind])).1 hnm
    have e1 := emp_eq h1
    have e2 := emp_eq h2
    subst hn0 z1 z2
    simp only [Tm.name, Tm.other] at e1 e2
    subst e1 e2
    exact .quote x hx
  · -- 11
    have hl : ts.length = 1 := by simp only [arK] at ha; simp at ha; omega
    obtain ⟨x, rfl⟩ := one_of hl
    obtain ⟨hx, -⟩ := hs
    have hn0 : n = 0 := by simp at hn; omega
    have z1 := zero_eq (hty.resolve_left (by decide))
    have z2 := zero_eq (hres.resolve_left (by decide))
    obtain ⟨h1, h2⟩ := (names_0 (by simp [Tm.kind]) (by simp [Tm.kind]) (by simp [Tm.kind])).1 hnm
    have e1 := emp_eq h1
    have e2 := emp_eq h2
    subst hn0 z1 z2
    simp only [Tm.name, Tm.other] at e1 e2
    subst e1 e2
    exact .splice x hx
  · -- 12
    have hl : ts.length = 1 := by simp only [arK] at ha; simp at ha; omega
    obtain ⟨x, rfl⟩ := one_of hl
    obtain ⟨hx, -⟩ := hs
    have hn0 : n = 0 := by simp at hn; omega
    have z1 := zero_eq (hty.resolve_left (by decide))
    have z2 := zero_eq (hres.resolve_left (by decide))
    obtain ⟨h1, h2⟩ := (names_0 (by simp [Tm.kind]) (by simp [Tm.kind]) (by simp [Tm.kind])).1 hnm
    have e1 := emp_eq h1
    have e2 := emp_eq h2
    subst hn0 z1 z2
    simp only [Tm.name, Tm.other] at e1 e2
    subst e1 e2
    exact .run x hx
  · -- 13
    have hl : ts.length = 1 := by simp only [arK] at ha; simp at ha; omega
    obtain ⟨x, rfl⟩ := one_of hl
    obtain ⟨hx, -⟩ := hs
    have hn0 : n = 0 := by simp at hn; omega
    have z1 := zero_eq (hty.resolve_left (by decide))
    have z2 := zero_eq (hres.resolve_left (by decide))
    obtain ⟨h1, h2⟩ := (names_0 (by simp [Tm.kind]) (by simp [Tm.kind]) (by simp [Tm.kind])).1 hnm
    have e1 := emp_eq h1
    have e2 := emp_eq h2
    subst hn0 z1 z2
    simp only [Tm.name, Tm.other] at e1 e2
    subst e1 e2
    exact .lift x hx
end Go.Proofs.YtfeijijeohfpgaaGreatDoor
