/-
  Several texts of the proof in one (each says below what it holds): Bent TmBent TmDrawV RdK RdI5.
-/
import Derived.Test.YtjobmgbchpoheaaGreatDoorPB25
import Derived.Test.YtjobmgbchpoheaaGreatDoorPB29
import Derived.Test.YtjobmgbchpoheaaGreatDoorPB12
import Derived.Test.YtjobmgbchpoheaaGreatDoorPB24
import Derived.Deep.RegionHeldLaw
namespace Go.Proofs.YtjobmgbchpoheaaGreatDoor
open Go Go.RowKit

set_option maxRecDepth 100000 in
set_option maxHeartbeats 1000000 in
theorem bent_any (b : Nat) (w : World) (hc : Cur w b) : Calls Tryz.prog 49 #[.pointer (some ⟨b, 0, none⟩)] w (BentT b w) := by
  obtain ⟨i0, hi, hz0, hz1, hz2⟩ := info_parts infoTy
  have hbw := hc.lt
  have HR0 := Lib.hid (Rdy.start hc)
  clear hc
  go_enter Tryz.func49, Tryz.ntmps49
  go_wp2_with fail
  refine (draw_any 4 (by decide) (by decide) b _ HR0.out.cur).mono ?_
  rintro e w1 ⟨v1, t, rfl, hn, hg, hc1, hgr1⟩
  have hr1 := HR0.out.step hbw hc1 hgr1
  obtain ⟨s1, es, hv1, hes, hG⟩ := hg
  subst hv1
  have hT := hG.all
  rw [hes] at hT
  obtain ⟨p1, c1, rfl⟩ := hT.form
  rw [World.size_alloc] at hT hG
  have hlt := hr1.lt
  have hbox : Box w b w1.heap.size (w1.alloc (.cells #[.int .i64 t.kind, .slice p1 t.args.length c1] 26)) t (.slice p1 t.args.length c1) :=
    ⟨hr1.below (alloc_below w1 _), blk_new w1 _, (hT.mono (C' := fun z => w.heap.size + 1 ≤ z ∧ z ≠ w1.heap.size) (fun z hz hl => ⟨hz, by omega⟩)).keep (alloc_below w1 _), by omega⟩
  have HBX := Lib.hid hbox
  have HG := Lib.hid hG
  have HES := Lib.hid hes
  have hn15 : t.nodes + 1 ≤ 16 := hn
  have hcur := HBX.out.rdy.cur
  have HB0 := Lib.hid (below_any b 10 _ (by decide) (by decide) hcur)
  clear hc1 hgr1 hr1 hT hG hbox hes hn hcur
  go_wp2_with fail
  refine HB0.out.mono ?_
  rintro e w2 ⟨x, hx, rfl, hc2, hg2⟩
  have hb2 := HBX.out.step hbw hc2 hg2
  obtain ⟨⟨f0, f1, fz⟩, g0, g1, gz⟩ := hb2.facts
  have HB2 := Lib.hid hb2
  have HS2 := Lib.hid ((Stays.of_below (C := fun z => w.heap.size + 1 ≤ z) (alloc_below w1 (.cells #[.int .i64 t.kind, .slice p1 t.args.length c1] 26))).trans ⟨hg2.size, fun z hz hl => hg2.block z hl (fun e => by have := Option.some.inj e; omega)⟩)
  clear hc2 hg2 hb2 HB0
  obtain ⟨x0, x10⟩ := hx
  rcases (show x = 0 ∨ x = 1 ∨ x = 2 ∨ x = 3 ∨ 4 ≤ x by omega) with rfl | rfl | rfl | rfl | h4
  · clear f0 f1 fz g0 g1 gz
    go_wp2_with fail
    refine (below_any b 6 w2 (by decide) (by decide) HB2.out.rdy.cur).mono ?_
    rintro e w3 ⟨y, hy, rfl, hc3, hg3⟩
    have hb3 := HB2.out.step hbw hc3 hg3
    obtain ⟨⟨f0, f1, fz⟩, g0, g1, gz⟩ := hb3.facts
    have HB3 := Lib.hid hb3
    clear hc3 hg3 hb3 hy
    go_wp2_with fail
    refine bodyPost_ret (v := .agg #[.int .i64 y, .slice p1 t.args.length c1]) ?_ rfl ?_
    · rw [results_cell1 rfl]
      go_simp
    · exact bent_fin (t := .mk y t.args) (HB3.out.setKind hbw y) hbw (by rw [t.nodes_eq] at hn15; simp only [Ty.nodes]; omega)
  · clear f0 f1 fz g0 g1 gz
    have hd2 := HB2.out.below (Below.refl _ w2).drew
    obtain ⟨⟨f0, f1, fz⟩, g0, g1, gz⟩ := HB2.out.facts
    have hlen : es.length = t.args.length := by rw [← HES.out, List.length_map]
    have hl16 : t.args.length ≤ 15 := by have := nodesS_ge t.args; rw [t.nodes_eq] at hn15; omega
    have HLEN := Lib.hid hlen
    have HD2 := Lib.hid hd2
    have HBW := Lib.hid (fun (W : World) (hW : Below w2.drew.heap.size w2.drew W) => hd2.below hW)
    have HSW := Lib.hid (fun (W : World) (hW : Below w2.drew.heap.size w2.drew W) => (HS2.out.trans (Stays.of_below (Below.refl _ w2).drew)).trans (Stays.of_below hW))
    have HGW := Lib.hid (fun (W : World) (hW : Below w2.drew.heap.size w2.drew W) => (HG.out.stays (HSW.out W hW)))
    have HD := Lib.hid (fun (W : World) (hW : Below w2.drew.heap.size w2.drew W) => (hd2.below hW).facts.1.2.1)
    have HDZ := Lib.hid (fun (W : World) (hW : Below w2.drew.heap.size w2.drew W) => (hd2.below hW).facts.1.2.2)
    have HKB := Lib.hid (fun (W : World) (hW : Below w2.drew.heap.size w2.drew W) (x1 x2 : Value) (w' : World) (g2 cap2 : Nat) (hA : Appd W w' (w.heap.size + 1) 26 2 (.slice p1 t.args.length c1) es.length (ecells es) [x1, x2] g2 cap2) =>
      (((hA.kept w1.heap.size (hd2.below hW).bxlt (fun e => by have := (HG.out.own.lt _ e).2; omega)).1.trans (hd2.below hW).box) : w'.heap[w1.heap.size]? = some (.cells #[.int .i64 t.kind, .slice p1 t.args.length c1] 26 (0, 0))))
    clear hd2 hlen
    go_wp2_with fail
    go_region_law (first
        | (refine step_app1 (w0 := w3) (v := .slice p1 t.args.length c1) (n := es.length) (xs := ecells es) rfl (.tmp 19) (.tmp 21) rfl Tryz.underlying24 hi hz0 hz1 hz2 rfl (by decide) rfl (HGW.out w3 hb3).own _ rfl (by simp) rfl (fun u hu => by simp at hu; rcases hu with rfl | rfl <;> rfl) (by have := HLEN.out; unfold maxLen; omega) (by have := HLEN.out; omega) (by have := (HBW.out w3 hb3).bxlt; have := HB2.out.lt; omega) ?_; intro w' g2 cap2 hA; have d6b := HKB.out _ hb3 _ _ _ _ _ hA; have d6 : w'.cell? ⟨w1.heap.size, 1, none⟩ = some (.slice p1 t.args.length c1) := cell_of_blk d6b 1; have d6z := unfrozen_of_blk d6b)
        | (go_simp; go_at_call 85; refine (l3Int_any _).mono ?_; rintro e w3 ⟨rfl, hb3⟩; have d4 := HD.out w3 hb3; have d4z := HDZ.out w3 hb3; have d5 := fun (o : Obj) => al_cell d4 o))
    all_goals
      have hbz := box_app (HBW.out w3 hb3) hbw HG.out rfl (HSW.out w3 hb3) hA HES.out
      obtain ⟨wz, hwz⟩ : ∃ wz, w'.setCell ⟨w1.heap.size, 1, none⟩ (.slice (some ⟨g2, 0, none⟩) (es.length + 1) cap2) = wz := ⟨_, rfl⟩
      rw [hwz] at hbz ⊢
      have HBZ := Lib.hid hbz
      clear hwz hA hb3 d4 d4z d5 d6b d6 d6z f0 f1 fz g0 g1 gz
      obtain ⟨⟨f0, f1, fz⟩, g0, g1, gz⟩ := hbz.facts
      clear hbz
      go_wp2_with fail
      refine bodyPost_ret (v := .agg #[.int .i64 t.kind, .slice (some ⟨g2, 0, none⟩) (es.length + 1) cap2]) ?_ rfl ?_
      · rw [results_cell1 rfl]
        go_simp
      · exact bent_fin (t := .mk t.kind (t.args ++ [.mk 1 []])) HBZ.out hbw (by rw [t.nodes_eq] at hn15; simp only [Ty.nodes, nodesS_append, nodesS]; omega)
  · clear f0 f1 fz g0 g1 gz
    go_wp2_with fail
    refine (below_any b 6 w2 (by decide) (by decide) HB2.out.rdy.cur).mono ?_
    rintro e w3 ⟨y, hy, rfl, hc3, hg3⟩
    have HB3 := Lib.hid (HB2.out.step hbw hc3 hg3)
    obtain ⟨y0, y6⟩ := hy
    clear hc3 hg3
    go_wp2_with fail
    go_loopw [5] (fun i wr => ∃ (k : Nat) (u : Ty) (p : Option Addr) (c : Nat), (k : Int) ≤ 1 + y ∧ i = .int .i64 k ∧ u.nodes ≤ 16 + k ∧ Box w b w1.heap.size wr u (.slice p u.args.length c)) (fun i _ => (1 + y).toNat - (intOf i).toNat)
    case atStart => exact ⟨0, t, p1, c1, by omega, rfl, by omega, HB3.out⟩
    case round =>
      obtain ⟨k, u, p, c, hk, rfl, hu, hb⟩ := hrel
      obtain ⟨⟨f0, f1, fz⟩, g0, g1, gz⟩ := hb.facts
      have HB := Lib.hid hb
      clear hb
      by_cases hlk : (k : Int) < 1 + y
      · have HC := Lib.hid (l3Code_any HB.out.tt (by rw [u.nodes_eq] at hu; omega))
        go_wp2_with fail
        refine HC.out.mono ?_
        rintro e w4 ⟨v4, rfl, hg4, hb4⟩
        have hB4 := HB.out.below hb4
        obtain ⟨s4, rfl, hs4⟩ := hg4.ts (w := w) (bx := w1.heap.size) (by have := HB.out.rdy.lt; omega) HB.out.bxlt
        obtain ⟨p4, c4, rfl⟩ := hs4.form
        clear f0 f1 fz g0 g1 gz
        obtain ⟨⟨f0, f1, fz⟩, g0, g1, gz⟩ := hB4.facts
        have HB4 := Lib.hid hB4
        have HS4 := Lib.hid hs4
        clear hB4 hs4 hg4 hb4
        go_wp2_with fail
        go_roundw
        case rel => exact ⟨k + 1, .mk 4 [u], p4, c4, by omega, by go_num, by simp only [Ty.nodes, nodesS]; omega, HB4.out.set hbw HS4.out⟩
        case measure => simp [intOf]; omega
      · go_wp2_with fail
        refine bodyPost_ret (v := .agg #[.int .i64 u.kind, .slice p u.args.length c]) ?_ rfl ?_
        · rw [results_cell1 rfl]
          go_simp
        · exact bent_fin HB.out hbw (by omega)
  · clear f0 f1 fz g0 g1 gz
    go_wp2_with fail
    go_loopw [6] (fun i wr => ∃ (k : Nat) (u : Ty) (p : Option Addr) (c : Nat), k ≤ 3 ∧ i = .int .i64 k ∧ u.nodes + 1 ≤ 16 * 2 ^ k ∧ Box w b w1.heap.size wr u (.slice p u.args.length c)) (fun i _ => 3 - (intOf i).toNat)
    case atStart => exact ⟨0, t, p1, c1, by omega, rfl, by simpa using hn15, HB2.out⟩
    case round =>
      obtain ⟨k, u, p, c, hk, rfl, hu, hb⟩ := hrel
      have hk8 : 2 ^ k ≤ 2 ^ 3 := Nat.pow_le_pow_right (by decide) hk
      have hu2 : u.nodes ≤ 127 := by omega
      have HU := Lib.hid hu
      clear hu hk8
      obtain ⟨⟨f0, f1, fz⟩, g0, g1, gz⟩ := hb.facts
      have HB := Lib.hid hb
      clear hb
      by_cases hlk : (k : Int) < 3
      · have hna : nodesS u.args ≤ 1048576 := by rw [u.nodes_eq] at hu2; omega
        have HC := Lib.hid (l3Fun_any HB.out.tt HB.out.tt hna hna)
        clear hna
        go_wp2_with fail
        refine HC.out.mono ?_
        rintro e w4 ⟨v4, rfl, hg4, hb4⟩
        have hB4 := HB.out.below hb4
        obtain ⟨s4, rfl, hs4⟩ := hg4.ts (w := w) (bx := w1.heap.size) (by have := HB.out.rdy.lt; omega) HB.out.bxlt
        obtain ⟨p4, c4, rfl⟩ := hs4.form
        clear f0 f1 fz g0 g1 gz
        obtain ⟨⟨f0, f1, fz⟩, g0, g1, gz⟩ := hB4.facts
        have HB4 := Lib.hid hB4
        have HS4 := Lib.hid hs4
        clear hB4 hs4 hg4 hb4
        go_wp2_with fail
        go_roundw
        case rel => exact ⟨k + 1, .mk 3 [u, u], p4, c4, by omega, by go_num, by have := HU.out; simp only [Ty.nodes, nodesS, Nat.pow_succ]; omega, HB4.out.set hbw HS4.out⟩
        case measure => simp [intOf]; omega
      · go_wp2_with fail
        refine bodyPost_ret (v := .agg #[.int .i64 u.kind, .slice p u.args.length c]) ?_ rfl ?_
        · rw [results_cell1 rfl]
          go_simp
        · exact bent_fin HB.out hbw (by omega)
  · have e0 : (x == 0) = false := by rw [beq_eq_false_iff_ne]; omega
    have e1 : (x == 1) = false := by rw [beq_eq_false_iff_ne]; omega
    have e2 : (x == 2) = false := by rw [beq_eq_false_iff_ne]; omega
    have e3 : (x == 3) = false := by rw [beq_eq_false_iff_ne]; omega
    go_wp2_with fail
    refine bodyPost_ret (v := .agg #[.int .i64 t.kind, .slice p1 t.args.length c1]) ?_ rfl ?_
    · rw [results_cell1 rfl]
      go_simp
    · exact bent_fin HB2.out hbw (by omega)
end Go.Proofs.YtjobmgbchpoheaaGreatDoor
namespace Go.Proofs.YtjobmgbchpoheaaGreatDoor
open Go Go.RowKit

set_option maxRecDepth 100000 in
set_option maxHeartbeats 8000000 in
theorem bentM_any (b : Nat) (w : World) (hc : Cur w b) : Calls Tryz.prog 20 #[.pointer (some ⟨b, 0, none⟩)] w (DrawM 400 b w) := by
  obtain ⟨i0, hi, hz0, hz1, hz2⟩ := info_parts infoTm
  have hbw := hc.lt
  have HR0 := Lib.hid (RdyM.start hc)
  clear hc
  go_enter Tryz.func20, Tryz.ntmps20
  go_wp2_with fail
  refine (below_any b 4 _ (by decide) (by decide) HR0.out.cur).mono ?_
  rintro e w1 ⟨q, hq, rfl, hc1, hg1⟩
  have HR1 := Lib.hid (HR0.out.step hbw hc1 hg1)
  obtain ⟨q0, q4⟩ := hq
  clear hc1 hg1
  have HIW := Lib.hid (anyM_any (1 + q) (by omega) (by omega) b w1 HR1.out.cur)
  go_wp2_with fail
  refine HIW.out.mono ?_
  rintro e w2 ⟨t, tp, tc, rp, rc, p, c, xs, rfl, hw, hN, hc2, hg2⟩
  have hr2 := HR1.out.step hbw hc2 hg2
  have hlt1 := HR1.out.lt
  have hlt2 := hr2.lt
  have hE : NewTm w2 (w.heap.size + 1) (InBox w w2.heap.size) t tp tc rp rc p c xs := hN.base (by omega) (fun z hz hl => ⟨by omega, by omega⟩)
  rw [t.eta] at hE
  have HBX0 := Lib.hid (show BoxM w b w2.heap.size (w2.alloc (.cells (tmC t tp tc rp rc p c) 29)) (.mk t.kind t.name t.other t.n t.ty t.res t.args) tp tc rp rc p c xs from
    ⟨hr2.below (al_below _ _), blk_new w2 _, hE.stays (.of_below (al_below _ _)), by omega⟩)
  have hwe := t.wt_eq
  have HW := Lib.hid (show t.name.size + t.other.size + nodesS t.ty.args + nodesS t.res.args + wtS t.args ≤ 144 by omega)
  have HC2 := Lib.hid (below_any b 14 _ (by decide) (by decide) HBX0.out.rdy.cur)
  have hal : wtS t.args ≤ 144 := by omega
  have hlen := wtS_ge t.args
  have hl3 : t.args.length ≤ 144 := by omega
  clear hr2 hc2 hg2 hN hE hw hwe hal hlen HIW
  go_wp2_with fail
  refine HC2.out.mono ?_
  rintro e w3 ⟨x, hx, rfl, hc3, hg3⟩
  have hb3 := HBX0.out.step hbw hc3 hg3
  have HB3 := Lib.hid hb3
  clear hc3 hg3 HC2 HBX0
  obtain ⟨x0, x14⟩ := hx
  rcases (show x = 0 ∨ x = 1 ∨ x = 2 ∨ x = 3 ∨ x = 4 ∨ x = 5 ∨ 6 ≤ x by omega) with rfl | rfl | rfl | rfl | rfl | rfl | h6
  · clear hb3
    go_wp2_with fail
    refine (below_any b 15 w3 (by decide) (by decide) HB3.out.rdy.cur).mono ?_
    rintro e w4 ⟨y, hy, rfl, hc4, hg4⟩
    have hb4 := HB3.out.step hbw hc4 hg4
    have HB4 := Lib.hid hb4
    obtain ⟨⟨g0, g1, g2, g3, g4, g5, g6, g7, g8⟩, gz⟩ := hb4.facts
    obtain ⟨⟨r0, r1, r2, r3, r4, r5, r6, r7, r8⟩, rz⟩ := hb4.rdy.facts
    clear hb4 hc4 hg4 hy
    go_wp2_with fail
    refine bodyPost_ret (v := tmV (.mk y t.name t.other t.n t.ty t.res t.args) tp tc rp rc p c) ?_ rfl ?_
    · rw [results_cell1 rfl]
      go_simp
      all_goals (repeat' apply And.intro) <;> rfl
    · have := (HB4.out.setKind hbw y).fin (m := 400) hbw (by have := HW.out; skip; simp only [Tm.wt]; omega)
      rw [setN9] at this
      exact this
  · clear hb3
    go_wp2_with fail
    refine (pickInt_litG [0, 1, 10006, 10007, -1] 5 b w3 _ rfl (by decide) (by decide) rfl HB3.out.rdy.cur).mono ?_
    rintro e w4 ⟨y, hy, rfl, hc4, hg4⟩
    have hb4 := HB3.out.step hbw hc4 hg4
    have HB4 := Lib.hid hb4
    obtain ⟨⟨g0, g1, g2, g3, g4, g5, g6, g7, g8⟩, gz⟩ := hb4.facts
    obtain ⟨⟨r0, r1, r2, r3, r4, r5, r6, r7, r8⟩, rz⟩ := hb4.rdy.facts
    clear hb4 hc4 hg4 hy
    go_wp2_with fail
    refine bodyPost_ret (v := tmV (.mk t.kind t.name t.other y t.ty t.res t.args) tp tc rp rc p c) ?_ rfl ?_
    · rw [results_cell1 rfl]
      go_simp
      all_goals (repeat' apply And.intro) <;> rfl
    · have := (HB4.out.setNum hbw y).fin (m := 400) hbw (by have := HW.out; skip; simp only [Tm.wt]; omega)
      rw [setN9] at this
      exact this
  · clear hb3
    go_wp2_with fail
    refine (pickS_litG [⟨#[]⟩, ⟨#[120]⟩, ⟨#[108, 101, 116]⟩, ⟨#[97, 98, 99, 100, 101]⟩, ⟨#[43]⟩] 5 b w3 _ rfl (by decide) (by decide) rfl HB3.out.rdy.cur).mono ?_
    rintro e w4 ⟨s, hs, rfl, hc4, hg4⟩
    have hb4 := HB3.out.step hbw hc4 hg4
    have HB4 := Lib.hid hb4
    have HS := Lib.hid (show s.size ≤ 5 by simp at hs; rcases hs with rfl | rfl | rfl | rfl | rfl <;> decide)
    obtain ⟨⟨g0, g1, g2, g3, g4, g5, g6, g7, g8⟩, gz⟩ := hb4.facts
    obtain ⟨⟨r0, r1, r2, r3, r4, r5, r6, r7, r8⟩, rz⟩ := hb4.rdy.facts
    clear hb4 hc4 hg4 hs
    go_wp2_with fail
    refine bodyPost_ret (v := tmV (.mk t.kind s t.other t.n t.ty t.res t.args) tp tc rp rc p c) ?_ rfl ?_
    · rw [results_cell1 rfl]
      go_simp
      all_goals (repeat' apply And.intro) <;> rfl
    · have := (HB4.out.setName hbw s).fin (m := 400) hbw (by have := HW.out; have := HS.out; simp only [Tm.wt]; omega)
      rw [setN9] at this
      exact this
  · have hbd := hb3.below (Below.refl _ w3).drew
    have HBD := Lib.hid hbd
    obtain ⟨⟨g0, g1, g2, g3, g4, g5, g6, g7, g8⟩, gz⟩ := hb3.facts
    obtain ⟨⟨r0, r1, r2, r3, r4, r5, r6, r7, r8⟩, rz⟩ := hb3.rdy.facts
    clear hb3 hbd
    go_wp2_with fail
    go_region_law (first
      | (refine step_app1 (w0 := w6) (v := .slice p t.args.length c) (n := t.args.length) (xs := xs) rfl (.tmp 31) (.tmp 33) rfl Tryz.underlying27 hi hz0 hz1 hz2 rfl (by decide) rfl HB6.out.new.row.own _ rfl (by simp) rfl (fun u hu => by simp at hu; rcases hu with rfl | rfl | rfl | rfl | rfl | rfl | rfl | rfl | rfl <;> rfl) (by unfold maxLen; omega) (by omega) (by have := HB6.out.bxlt; have := HB6.out.lt; omega) ?_; intro w' g2' cap2 hA; have d6b := (hA.kept w2.heap.size HB6.out.bxlt (fun e => (HB6.out.new.row.blk _ e).2 rfl)).1.trans HB6.out.box; have d6 : w'.cell? ⟨w2.heap.size, 8, none⟩ = some (.slice p t.args.length c) := cell_of_blk d6b 8; have d6z := unfrozen_of_blk d6b)
      | (go_simp; go_at_call 48; refine (l5Var_any _ w3.drew).mono ?_; rintro e w6 ⟨rfl, hb6⟩; have hbx6 := HBD.out.below hb6; have HB6 := Lib.hid hbx6; have d4 : w6.cell? ⟨w2.heap.size, 8, none⟩ = some (.slice p t.args.length c) := hbx6.facts.1.2.2.2.2.2.2.2.2; have d4z := hbx6.facts.2; have d5 := fun (o : Obj) => al_cell d4 o; clear hbx6))
    all_goals
      have hx := (leaf_new w6 0 (fun z => InBox w w2.heap.size z ∧ (Value.slice p t.args.length c).ownBlock ≠ some z) 1 ⟨#[120]⟩ 0).tm.ms
      have hbz := HB6.out.app hbw hA hx
      have HBZ := Lib.hid hbz
      obtain ⟨wz, hwz⟩ : ∃ wz, w'.setCell ⟨w2.heap.size, 8, none⟩ (.slice (some ⟨g2', 0, none⟩) (t.args.length + 1) cap2) = wz := ⟨_, rfl⟩
      rw [hwz] at HBZ hbz ⊢
      clear hwz hx hA d4 d4z d5 d6b d6 d6z g0 g1 g2 g3 g4 g5 g6 g7 g8 gz r0 r1 r2 r3 r4 r5 r6 r7 r8 rz hb6
      obtain ⟨⟨g0, g1, g2, g3, g4, g5, g6, g7, g8⟩, gz⟩ := hbz.facts
      obtain ⟨⟨r0, r1, r2, r3, r4, r5, r6, r7, r8⟩, rz⟩ := hbz.rdy.facts
      have el : (t.args ++ [leaf 1 ⟨#[120]⟩ 0]).length = t.args.length + 1 := by simp
      rw [el] at g8
      clear hbz el
      go_wp2_with fail
      refine bodyPost_ret (v := tmV (.mk t.kind t.name t.other t.n t.ty t.res (t.args ++ [leaf 1 ⟨#[120]⟩ 0])) tp tc rp rc (some ⟨g2', 0, none⟩) cap2) ?_ rfl ?_
      · rw [results_cell1 rfl]
        go_simp
        all_goals (repeat' apply And.intro) <;> first | rfl | simp [Tm.args]
      · have := HBZ.out.fin (m := 400) hbw (by have := HW.out; have hl : wtS (t.args ++ [leaf 1 ⟨#[120]⟩ 0]) = wtS t.args + 2 := (by rw [wtS_append]; rfl); simp only [Tm.wt]; rw [hl]; omega)
        rw [setN9] at this
        simp only [Tm.args, List.length_append, List.length_cons, List.length_nil] at this
        exact this
  · clear hb3
    go_wp2_with fail
    refine (bent_any b w3 HB3.out.rdy.cur).mono ?_
    rintro e w4 ⟨v4, u, rfl, hu, htt, hc4, hg4⟩
    obtain ⟨s4, rfl, hs4⟩ := htt
    obtain ⟨p4, c4, rfl⟩ := hs4.form
    have hb4 := HB3.out.step hbw hc4 hg4
    have HB4 := Lib.hid hb4
    have HT4 := Lib.hid (hs4.mono (C' := fun z => InBox w w2.heap.size z ∧ (Value.slice p t.args.length c).ownBlock ≠ some z) (fun z hz _ => ⟨InBox.of HB3.out.lt HB3.out.bxlt hz, fun e => by
      have := (HB3.out.new.row.own.lt z e).2
      have : w3.heap.size ≤ z := hz
      omega⟩))
    have HU := Lib.hid hu
    obtain ⟨⟨g0, g1, g2, g3, g4, g5, g6, g7, g8⟩, gz⟩ := hb4.facts
    obtain ⟨⟨r0, r1, r2, r3, r4, r5, r6, r7, r8⟩, rz⟩ := hb4.rdy.facts
    clear hb4 hc4 hg4 hs4 hu
    go_wp2_with fail
    refine bodyPost_ret (v := tmV (.mk t.kind t.name t.other t.n u t.res t.args) p4 c4 rp rc p c) ?_ rfl ?_
    · rw [results_cell1 rfl]
      go_simp
      all_goals (repeat' apply And.intro) <;> rfl
    · have := (HB4.out.setTy hbw HT4.out).fin (m := 400) hbw (by have := HW.out; have := HU.out; rw [u.nodes_eq] at this; simp only [Tm.wt]; omega)
      rw [setN9] at this
      exact this
  · clear hb3
    go_wp2_with fail
    refine (pickS_litG [⟨#[120]⟩, ⟨#[122]⟩] 2 b w3 _ rfl (by decide) (by decide) rfl HB3.out.rdy.cur).mono ?_
    rintro e w4 ⟨s, hs, rfl, hc4, hg4⟩
    have hb4 := HB3.out.step hbw hc4 hg4
    have HB4 := Lib.hid hb4
    have HS := Lib.hid (show s.size ≤ 1 by simp at hs; rcases hs with rfl | rfl <;> decide)
    obtain ⟨⟨g0, g1, g2, g3, g4, g5, g6, g7, g8⟩, gz⟩ := hb4.facts
    obtain ⟨⟨r0, r1, r2, r3, r4, r5, r6, r7, r8⟩, rz⟩ := hb4.rdy.facts
    clear hb4 hc4 hg4 hs
    go_wp2_with fail
    refine bodyPost_ret (v := tmV (.mk t.kind t.name s t.n t.ty t.res t.args) tp tc rp rc p c) ?_ rfl ?_
    · rw [results_cell1 rfl]
      go_simp
      all_goals (repeat' apply And.intro) <;> rfl
    · have := (HB4.out.setOther hbw s).fin (m := 400) hbw (by have := HW.out; have := HS.out; simp only [Tm.wt]; omega)
      rw [setN9] at this
      exact this
  · have e0 : (x == 0) = false := by rw [beq_eq_false_iff_ne]; omega
    have e1 : (x == 1) = false := by rw [beq_eq_false_iff_ne]; omega
    have e2 : (x == 2) = false := by rw [beq_eq_false_iff_ne]; omega
    have e3 : (x == 3) = false := by rw [beq_eq_false_iff_ne]; omega
    have e4 : (x == 4) = false := by rw [beq_eq_false_iff_ne]; omega
    have e5 : (x == 5) = false := by rw [beq_eq_false_iff_ne]; omega
    obtain ⟨⟨g0, g1, g2, g3, g4, g5, g6, g7, g8⟩, gz⟩ := hb3.facts
    obtain ⟨⟨r0, r1, r2, r3, r4, r5, r6, r7, r8⟩, rz⟩ := hb3.rdy.facts
    clear hb3
    go_wp2_with fail
    refine bodyPost_ret (v := tmV (.mk t.kind t.name t.other t.n t.ty t.res t.args) tp tc rp rc p c) ?_ rfl ?_
    · rw [results_cell1 rfl]
      go_simp
      all_goals (repeat' apply And.intro) <;> rfl
    · have := (HB3.out).fin (m := 400) hbw (by have := HW.out; skip; simp only [Tm.wt]; omega)
      rw [setN9] at this
      exact this
end Go.Proofs.YtjobmgbchpoheaaGreatDoor
namespace Go.Proofs.YtjobmgbchpoheaaGreatDoor
open Go Go.RowKit
structure Lifts (w W : World) (b bx : Nat) (t : Tm) (tp : Option Addr) (tc : Nat) (rp : Option Addr) (rc : Nat) (p : Option Addr) (c : Nat) : Prop where
  cur : Cur W b
  r : W.heap[w.heap.size]? = some (.cells zero9 29 (0, 0))
  box : W.heap[bx]? = some (.cells (tmC t tp tc rp rc p c) 29 (0, 0))
  tm : TM' W (fun z => b < z ∧ z ≠ bx) t tp tc rp rc p c
  below : Below w.heap.size w W
  ltb : w.heap.size < b
  ltx : b < bx
section
variable {w W W' : World} {b bx : Nat} {t : Tm} {tp rp p : Option Addr} {tc rc c : Nat}
theorem rowm_lit {C C' : Nat → Prop} (h : TM' W C t tp tc rp rc p c) (hC : ∀ z, C z → z < W.heap.size → C' z) (hN : C' W.heap.size) : DM (W.alloc (.cells (tmC t tp tc rp rc p c) 29)) C' (tmD [t]) (.slice (some ⟨W.heap.size, 0, none⟩) 1 1) := by
  have hms := ((h.mono hC).stays (.of_below (al_below W (.cells (tmC t tp tc rp rc p c) 29)))).ms
  have hf : flatTm [t] = t.ds := by simp [flatTm]
  have hcell : ∀ i d, t.ds[i]? = some d → (W.alloc (.cells (tmC t tp tc rp rc p c) 29)).cell? ⟨W.heap.size, 0 + i, none⟩ = some ((tmC t tp tc rp rc p c).toList[i]?.getD .nilIface) := fun i d hd => by
    have hi := (List.getElem?_eq_some_iff.1 hd).1
    rw [t.ds_len] at hi
    rw [Nat.zero_add, cell_of_blk (blk_new W _) i]
    rw [← Array.getElem?_toList, List.getElem?_eq_getElem (by simpa using hi)]
    rfl
  show DM _ _ (.rows _ 9 1 (flatTm [t])) _
  rw [hf]
  exact DM.rows (fun i => (tmC t tp tc rp rc p c).toList[i]?.getD .nilIface) (by omega) (by omega) (by omega) (by rw [t.ds_len]) hN (by simp) hcell
    (fun i d hd => hms.2 i d _ hd (by
      have hi := (List.getElem?_eq_some_iff.1 hd).1
      rw [t.ds_len] at hi
      rw [List.getElem?_eq_getElem (by simpa using hi)]
      rfl))
end
def DrawsM (m : Nat) (w : World) (e : Ending) (w' : World) : Prop := ∃ v t, e = .returned v ∧ t.wt ≤ m ∧ TM w' (fun z => w.heap.size ≤ z) t v ∧ Below w.heap.size w w'
end Go.Proofs.YtjobmgbchpoheaaGreatDoor
namespace Go.Proofs.YtjobmgbchpoheaaGreatDoor
open Go Go.RowKit

theorem ptys_wt {f : Nat → Option (Ty × Nat)} {s : List UInt8} (hf : ∀ i t j, f i = some (t, j) → i + t.nodes ≤ j) : ∀ (es : List UInt8) (i : Nat) (ts : List Ty) (j : Nat), ptys f s es i = some (ts, j) → i + nodesS ts ≤ j
  | [], i, ts, j, h => by
    simp only [ptys, Option.some.injEq, Prod.mk.injEq] at h
    obtain ⟨rfl, rfl⟩ := h
    simp [nodesS]
  | e :: es, i, ts, j, h => by
    simp only [ptys] at h
    cases h1 : f i with
    | none => rw [h1] at h; cases h
    | some r =>
      obtain ⟨t, k⟩ := r
      rw [h1] at h
      dsimp only at h
      split at h
      · cases h2 : ptys f s es (k + 1) with
        | none => rw [h2] at h; cases h
        | some r2 =>
          obtain ⟨us, l⟩ := r2
          rw [h2] at h
          simp only [Option.map_some, Option.some.injEq, Prod.mk.injEq] at h
          obtain ⟨rfl, rfl⟩ := h
          have a := hf _ _ _ h1
          have b := ptys_wt hf _ _ _ _ h2
          simp only [nodesS]
          omega
      · cases h
theorem pty_wt (s : List UInt8) : ∀ (k i : Nat) (t : Ty) (j : Nat), pty s k i = some (t, j) → i + t.nodes ≤ j
  | 0, i, t, j, h => by cases h
  | k + 1, i, t, j, h => by
    have two : ∀ (kd : Int) (es : List UInt8), (ptys (pty s k) s es (i + 1)).map (fun r => (Ty.mk kd r.1, r.2)) = some (t, j) → i + t.nodes ≤ j := by
      intro kd es h
      cases h2 : ptys (pty s k) s es (i + 1) with
      | none => rw [h2] at h; cases h
      | some r =>
        rw [h2] at h
        simp only [Option.map_some, Option.some.injEq, Prod.mk.injEq] at h
        obtain ⟨rfl, rfl⟩ := h
        have := ptys_wt (pty_wt s k) _ _ _ _ h2
        simp only [Ty.nodes]
        omega
    unfold pty at h
    split at h
    · simp only [Option.some.injEq, Prod.mk.injEq] at h
      obtain ⟨rfl, rfl⟩ := h
      simp [Ty.nodes, nodesS]
    · split at h
      · simp only [Option.some.injEq, Prod.mk.injEq] at h
        obtain ⟨rfl, rfl⟩ := h
        simp [Ty.nodes, nodesS]
      · split at h
        · exact two 3 _ h
        · split at h
          · exact two 4 _ h
          · cases h
theorem pts_wt {f : Nat → Option (Tm × Nat)} {s : List UInt8} (hf : ∀ i t j, f i = some (t, j) → i + t.wt ≤ j) : ∀ (es : List UInt8) (i : Nat) (ts : List Tm) (j : Nat), pts f s es i = some (ts, j) → i + wtS ts ≤ j
  | [], i, ts, j, h => by
    simp only [pts, Option.some.injEq, Prod.mk.injEq] at h
    obtain ⟨rfl, rfl⟩ := h
    simp [wtS]
  | e :: es, i, ts, j, h => by
    simp only [pts] at h
    cases h1 : f i with
    | none => rw [h1] at h; cases h
    | some r =>
      obtain ⟨t, k⟩ := r
      rw [h1] at h
      dsimp only at h
      split at h
      · cases h2 : pts f s es (k + 1) with
        | none => rw [h2] at h; cases h
        | some r2 =>
          obtain ⟨us, l⟩ := r2
          rw [h2] at h
          simp only [Option.map_some, Option.some.injEq, Prod.mk.injEq] at h
          obtain ⟨rfl, rfl⟩ := h
          have a := hf _ _ _ h1
          have b := pts_wt hf _ _ _ _ h2
          simp only [wtS]
          omega
      · cases h
theorem pmap_wt {f : Nat → Option (Tm × Nat)} {s es : List UInt8} (hf : ∀ i t j, f i = some (t, j) → i + t.wt ≤ j) {i j : Nat} {t : Tm} {g : List Tm → Tm} {m : Nat} (hg : ∀ ts, (g ts).wt ≤ m + wtS ts)
    (h : (pts f s es i).map (fun r => (g r.1, r.2)) = some (t, j)) : i + t.wt ≤ j + m := by
  cases h2 : pts f s es i with
  | none => rw [h2] at h; cases h
  | some r =>
    rw [h2] at h
    simp only [Option.map_some, Option.some.injEq, Prod.mk.injEq] at h
    obtain ⟨rfl, rfl⟩ := h
    have := pts_wt hf _ _ _ _ h2
    have := hg r.1
    omega
theorem sz_list (l : List UInt8) : (⟨l.toArray⟩ : ByteArray).size = l.length := by
  show l.toArray.size = _
  simp
theorem mkT_wt (k : Int) (a : List UInt8) (n : Int) (ts : List Tm) : (mkT k a n ts).wt = a.length + wtS ts := by
  show (⟨a.toArray⟩ : ByteArray).size + 0 + 0 + 0 + wtS ts = _
  rw [sz_list]
  omega
theorem mk_wt (k : Int) (a b : List UInt8) (n : Int) (ty res : Ty) (ts : List Tm) : (Tm.mk k ⟨a.toArray⟩ ⟨b.toArray⟩ n ty res ts).wt = a.length + b.length + nodesS ty.args + nodesS res.args + wtS ts := by
  show (⟨a.toArray⟩ : ByteArray).size + (⟨b.toArray⟩ : ByteArray).size + nodesS ty.args + nodesS res.args + wtS ts = _
  rw [sz_list, sz_list]
theorem pOpen_wt {f : Nat → Option (Tm × Nat)} {s : List UInt8} (hf : ∀ i t j, f i = some (t, j) → i + t.wt ≤ j) {i j : Nat} {t : Tm} (h : pOpen s f i = some (t, j)) : i + t.wt ≤ j + 1 := by
  have ty1 : ∀ (k i j : Nat) (u : Ty), pty s k i = some (u, j) → i + 1 + nodesS u.args ≤ j := fun k i j u h => by
    have := pty_wt s _ _ _ _ h
    rw [u.nodes_eq] at this
    omega
  unfold pOpen at h
  split at h
  · unfold pLam at h
    split at h
    · split at h
      · cases h
      · next ty j1 hp =>
        split at h
        · have a := ty1 _ _ _ _ hp
          have b := pmap_wt hf (m := (word s (i + 1)).length + nodesS ty.args) (fun ts => by rw [mk_wt _ _ []]; simp [nodesS, Ty.args]) h
          omega
        · cases h
    · cases h
  · split at h
    · unfold pLet at h
      split at h
      · have b := pmap_wt hf (m := (word s (i + 4)).length) (fun ts => by rw [mkT_wt]; exact Nat.le_refl _) h
        omega
      · cases h
    · split at h
      · unfold pRec at h
        split at h
        · unfold pRec2 at h
          split at h
          · split at h
            · cases h
            · next ty j1 hp =>
              split at h
              · split at h
                · cases h
                · next res j2 hp2 =>
                  split at h
                  · have a := ty1 _ _ _ _ hp
                    have a2 := ty1 _ _ _ _ hp2
                    have b := pmap_wt hf (fun ts => by rw [mk_wt]; exact Nat.le_refl _) h
                    omega
                  · cases h
              · cases h
          · cases h
        · cases h
      · split at h
        · have b := pmap_wt hf (m := 0) (fun ts => by rw [mkT_wt]; simp) h
          omega
        · split at h
          · have b := pmap_wt hf (m := 0) (fun ts => by rw [mkT_wt]; simp) h
            omega
          · split at h
            · have b := pmap_wt hf (m := 0) (fun ts => by rw [mkT_wt]; simp) h
              omega
            · split at h
              · have b := pmap_wt hf (m := 1) (fun ts => by rw [mkT_wt]; simp) h
                omega
              · split at h
                · cases h
                · next x j1 hx =>
                  have a := hf _ _ _ hx
                  unfold pRest at h
                  split at h
                  · have b := pmap_wt hf (g := fun ts => mkT 7 [] 0 (x :: ts)) (m := 1 + x.wt) (fun ts => by show (mkT 7 [] 0 (x :: ts)).wt ≤ _; rw [mkT_wt]; show 0 + (1 + x.wt + wtS ts) ≤ _; omega) h
                    omega
                  · split at h
                    · cases h
                    · next c hc =>
                      split at h
                      · have b := pmap_wt hf (g := fun ts => mkT 4 [c] 0 (x :: ts)) (m := 2 + x.wt) (fun ts => by show (mkT 4 [c] 0 (x :: ts)).wt ≤ _; rw [mkT_wt]; show 1 + (1 + x.wt + wtS ts) ≤ _; omega) h
                        omega
                      · cases h
theorem pTm_wt (s : List UInt8) : ∀ (D i : Nat) (t : Tm) (j : Nat), pTm s D i = some (t, j) → i + t.wt ≤ j
  | 0, i, t, j, h => by cases h
  | D + 1, i, t, j, h => by
    have hf := pTm_wt s D
    unfold pTm at h
    split at h
    · cases h
    · split at h
      · simp only [Option.some.injEq, Prod.mk.injEq] at h
        obtain ⟨rfl, rfl⟩ := h
        rw [mkT_wt]; simp [wtS]
      · split at h
        · simp only [Option.some.injEq, Prod.mk.injEq] at h
          obtain ⟨rfl, rfl⟩ := h
          rw [mkT_wt]; simp [wtS]
        · split at h
          · cases h2 : pTm s D (i + 1) with
            | none => rw [h2] at h; cases h
            | some r =>
              rw [h2] at h
              simp only [Option.map_some, Option.some.injEq, Prod.mk.injEq] at h
              obtain ⟨rfl, rfl⟩ := h
              have := hf _ _ _ h2
              rw [mkT_wt]; simp only [wtS, List.length_nil]; omega
          · split at h
            · have b := pmap_wt hf (m := 0) (fun ts => by rw [mkT_wt]; simp) h
              omega
            · split at h
              · have := pOpen_wt hf h
                omega
              · split at h
                · split at h
                  · simp only [Option.some.injEq, Prod.mk.injEq] at h
                    obtain ⟨rfl, rfl⟩ := h
                    rw [mkT_wt]; simp [wtS]
                  · cases h
                · simp only [Option.some.injEq, Prod.mk.injEq] at h
                  obtain ⟨rfl, rfl⟩ := h
                  rw [mkT_wt]; simp [wtS]
end Go.Proofs.YtjobmgbchpoheaaGreatDoor
namespace Go.Proofs.YtjobmgbchpoheaaGreatDoor
open Go Go.RowKit

theorem small_wrest {l : List UInt8} (h : Small l) : Small (wrest l) := by
  have := wd_len l
  unfold Small at *; omega
theorem small_cut {q l : List UInt8} (h : Small l) : Small (cut q l) := by
  have := cut_le q l
  unfold Small at *; omega
theorem small_wd {l : List UInt8} (h : Small l) : (bx (wd l)).size ≤ 2097152 := by
  have := wd_len l
  rw [bsz]
  unfold Small at h; omega
set_option maxRecDepth 100000 in
set_option maxHeartbeats 2000000 in
theorem let_any {F : RdF} (hF : Bd F) {R FB : Nat} {E : Nat → Nat} {k0 : Nat} (hOk : TermOk F R FB E k0) (l : List UInt8) (k : Nat) (w : World) (hk0 : k0 ≤ k) (hP : Pot k 998) (hl : Small l) (hr : Rdr R FB E l k w) :
    Calls Tryz.prog 54 #[.pointer (some ⟨R, 0, none⟩)] w (FormRet (rdLet F) R FB E w.heap.size l k w) := by
  obtain ⟨w0, hw0, hs0, hb0, r0⟩ := box_new w zeroC 29
  have hr0 := hr.below hb0
  have HU := Lib.hid hr.under
  have hub : Rdr.Under R FB E (w.heap.size + 1) := ⟨by have := hr.lt; omega, by have := hr.ltF; omega, fun i hi => by have := hr.ltE i hi; omega⟩
  have HUB := Lib.hid hub
  have HB0 := Lib.hid hb0
  have R0 := Lib.hid r0
  have HS0 := Lib.hid hs0
  have HN := Lib.hid (name_any [61] hl hr0)
  have HA := Lib.hid (fun (W : World) (h : Rdr R FB E (cut [61] (wrest l)) k W) (hz : w.heap.size + 1 ≤ W.heap.size) => args_any hF hOk 8 (bx (wd l)) E0 0 Z0 Z0 none 0 none 0 (w.heap.size + 1) (fun _ => False) (fun _ => False) (cut [61] (wrest l)) k W hk0 hP (small_cut (small_wrest hl)) h HUB.out hz (by decide) (small_wd hl) (by decide) (by decide) (by decide) (os_nil _ _) (os_nil _ _) (fun z hz => hz.elim) (fun z hz => hz.elim))
  clear hr hr0 hub hb0 r0 hs0
  go_enter Tryz.func54, Tryz.ntmps54
  go_wp2_with fail
  refine HN.out.mono ?_
  rintro e w1 ⟨rfl, hr1, hg1⟩
  have RO := Lib.hid ((hg1.block w.heap.size (by have := HS0.out; omega) (fun e => by have := HU.out.1; have := Option.some.inj e; omega)).trans R0.out)
  have HC := Lib.hid (HA.out w1 hr1 (by have := HS0.out; have := hg1.size; omega))
  have HG := Lib.hid (grownBy_trans (gb_below HB0.out _) hg1)
  have HG1 := Lib.hid hg1
  clear hr1 hg1
  go_wp2_with fail
  refine HC.out.mono ?_
  rintro e w9 ⟨hg9, x, k9, l9, v9, rfl, hR9, ⟨tp, tc, rp, rc, p, c, rfl, hO9⟩, hr9⟩
  have hgw := grownBy_trans HG.out hg9
  have hro := (hg9.block w.heap.size (by have := HS0.out; have := HG1.out.size; omega) (fun e => by have := HU.out.1; have := Option.some.inj e; omega)).trans RO.out
  have r0 := cell_of_blk hro 0
  have r1 := cell_of_blk hro 1
  have r2 := cell_of_blk hro 2
  have r3 := cell_of_blk hro 3
  have r4 := cell_of_blk hro 4
  have r5 := cell_of_blk hro 5
  have r6 := cell_of_blk hro 6
  have r7 := cell_of_blk hro 7
  have r8 := cell_of_blk hro 8
  have rz := unfrozen_of_blk hro
  simp only [List.getElem?_toArray, List.getElem?_cons_zero, List.getElem?_cons_succ] at r0 r1 r2 r3 r4 r5 r6 r7 r8
  have HX := Lib.hid (And.intro hgw (And.intro hR9 (And.intro hO9 hr9)))
  clear hg9 hgw hR9 hO9 hr9 hro
  go_wp2_with fail
  obtain ⟨hg1, hR1, hO1, hr1⟩ := HX.out
  refine bodyPost_ret (v := tmV x tp tc rp rc p c) ?_ rfl ?_
  · rw [results_cell1 rfl]
    go_simp
    all_goals (repeat' apply And.intro) <;> rfl
  · exact form_out HU.out hg1 hR1 hO1 hr1
set_option maxRecDepth 100000 in
set_option maxHeartbeats 2000000 in
theorem lam_any {F : RdF} (hF : Bd F) {R FB : Nat} {E : Nat → Nat} {k0 : Nat} (hOk : TermOk F R FB E k0) (l : List UInt8) (k : Nat) (w : World) (hk0 : k0 ≤ k) (hP : Pot k 998) (hl : Small l) (hr : Rdr R FB E l k w) :
    Calls Tryz.prog 56 #[.pointer (some ⟨R, 0, none⟩)] w (FormRet (rdLam F) R FB E w.heap.size l k w) := by
  obtain ⟨w0, hw0, hs0, hb0, r0⟩ := box_new w zeroC 29
  have hr0 := hr.below hb0
  have HU := Lib.hid hr.under
  have hub : Rdr.Under R FB E (w.heap.size + 1) := ⟨by have := hr.lt; omega, by have := hr.ltF; omega, fun i hi => by have := hr.ltE i hi; omega⟩
  have HUB := Lib.hid hub
  have HB0 := Lib.hid hb0
  have R0 := Lib.hid r0
  have HS0 := Lib.hid hs0
  have HN := Lib.hid (name_any [58] hl hr0)
  have HT := Lib.hid (fun (W : World) (h : Rdr R FB E (cut [58] (wrest l)) k W) => type_any [46] (small_cut (small_wrest hl)) h)
  have HA := Lib.hid (fun (ty : Ty) (tp : Option Addr) (tc : Nat) (l2 : List UInt8) (b : Nat) (W : World) (h : Rdr R FB E l2 k W) (hl2 : Small l2) (hn : nodesS ty.args ≤ 512) (hb : w.heap.size + 1 ≤ b) (hbW : b ≤ W.heap.size) (ho : OS W ty.args (.slice tp ty.args.length tc) (fun z => b ≤ z ∧ z < W.heap.size)) =>
    args_any hF hOk 6 (bx (wd l)) E0 0 ty Z0 tp tc none 0 (w.heap.size + 1) (fun z => b ≤ z ∧ z < W.heap.size) (fun _ => False) l2 k W hk0 hP hl2 h HUB.out (by omega) (by decide) (small_wd hl) (by decide) (by omega) (by decide) ho (os_nil _ _) (fun z hz => ⟨by omega, hz.2, fun h => h⟩) (fun z hz => hz.elim))
  clear hr hr0 hub hb0 r0 hs0
  go_enter Tryz.func56, Tryz.ntmps56
  go_wp2_with fail
  refine HN.out.mono ?_
  rintro e w1 ⟨rfl, hr1, hg1⟩
  have HT1 := Lib.hid (HT.out w1 hr1)
  have HG1 := Lib.hid hg1
  clear hr1 hg1
  go_wp2_with fail
  refine HT1.out.mono ?_
  rintro e w2 ⟨ty, p2, c2, l2, rfl, ht2, ho2, hr2, hg2⟩
  obtain ⟨hn2, hle2⟩ := rdTy_bd ht2
  have hs1 := HG1.out.size
  have hgg := grownBy_trans HG1.out hg2
  have RO := Lib.hid ((hgg.block w.heap.size (by have := HS0.out; omega) (fun e => by have := HU.out.1; have := Option.some.inj e; omega)).trans R0.out)
  have HC := Lib.hid (HA.out ty p2 c2 l2 w1.heap.size w2 hr2 (by have := small_cut (q := [58]) (small_wrest hl); unfold Small at *; omega) hn2 (by have := HS0.out; omega) hg2.size ho2)
  have HG := Lib.hid (grownBy_trans (gb_below HB0.out _) hgg)
  have HGG := Lib.hid hgg
  have HT2 := Lib.hid ht2
  clear hr2 hg2 hgg ht2 ho2 hle2 hs1
  go_wp2_with fail
  refine HC.out.mono ?_
  rintro e w9 ⟨hg9, x, k9, l9, v9, rfl, hR9, ⟨tp, tc, rp, rc, p, c, rfl, hO9⟩, hr9⟩
  have hgw := grownBy_trans HG.out hg9
  have hro := (hg9.block w.heap.size (by have := HS0.out; have := HGG.out.size; omega) (fun e => by have := HU.out.1; have := Option.some.inj e; omega)).trans RO.out
  have r0 := cell_of_blk hro 0
  have r1 := cell_of_blk hro 1
  have r2 := cell_of_blk hro 2
  have r3 := cell_of_blk hro 3
  have r4 := cell_of_blk hro 4
  have r5 := cell_of_blk hro 5
  have r6 := cell_of_blk hro 6
  have r7 := cell_of_blk hro 7
  have r8 := cell_of_blk hro 8
  have rz := unfrozen_of_blk hro
  simp only [List.getElem?_toArray, List.getElem?_cons_zero, List.getElem?_cons_succ] at r0 r1 r2 r3 r4 r5 r6 r7 r8
  have HX := Lib.hid (And.intro hgw (And.intro hR9 (And.intro hO9 hr9)))
  clear hg9 hgw hR9 hO9 hr9 hro
  go_wp2_with fail
  obtain ⟨hg1, hR1, hO1, hr1⟩ := HX.out
  refine bodyPost_ret (v := tmV x tp tc rp rc p c) ?_ rfl ?_
  · rw [results_cell1 rfl]
    go_simp
    all_goals (repeat' apply And.intro) <;> rfl
  · exact form_out HU.out hg1 ⟨ty, l2, HT2.out, hR1⟩ hO1 hr1
end Go.Proofs.YtjobmgbchpoheaaGreatDoor
