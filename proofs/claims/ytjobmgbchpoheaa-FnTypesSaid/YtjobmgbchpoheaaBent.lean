/-
  The contract of the draws' l3Bent: a drawn type, now and then bent at one place; it has at most 127 nodes.
-/
import Derived.Test.YtjobmgbchpoheaaDrawT4
import Derived.Deep.RegionHeldLaw
namespace Go.Proofs.Ytjobmgbchpoheaa
open Go Go.RowKit

set_option maxRecDepth 100000 in
set_option maxHeartbeats 1000000 in
theorem bent_any (b : Nat) (w : World) (hc : Cur w b) : Calls Try.prog 25 #[.pointer (some ⟨b, 0, none⟩)] w (BentT b w) := by
  obtain ⟨i0, hi, hz0, hz1, hz2⟩ := info_parts infoTy
  have hbw := hc.lt
  have HR0 := Lib.hid (Rdy.start hc)
  clear hc
  go_enter Try.func25, Try.ntmps25
  go_wp2_with fail
  refine (draw_any 4 (by decide) (by decide) b _ HR0.out.cur).mono ?_
  rintro e w1 ⟨v1, t, rfl, hn, hg, hc1, hgr1⟩
  have hr1 := HR0.out.step hbw hc1 hgr1
  obtain ⟨s1, es, hv1, hes, hG⟩ := hg
  subst hv1
  have hT := hG.all
  rw [hes] at hT
  obtain ⟨p1, c1, rfl⟩ := hT.form
  rw [World.size_alloc] at hT hG
  have hlt := hr1.lt
  have hbox : Box w b w1.heap.size (w1.alloc (.cells #[.int .i64 t.kind, .slice p1 t.args.length c1] 26)) t (.slice p1 t.args.length c1) :=
    ⟨hr1.below (alloc_below w1 _), blk_new w1 _, (hT.mono (C' := fun z => w.heap.size + 1 ≤ z ∧ z ≠ w1.heap.size) (fun z hz hl => ⟨hz, by omega⟩)).keep (alloc_below w1 _), by omega⟩
  have HBX := Lib.hid hbox
  have HG := Lib.hid hG
  have HES := Lib.hid hes
  have hn15 : t.nodes + 1 ≤ 16 := hn
  have hcur := HBX.out.rdy.cur
  have HB0 := Lib.hid (below_any b 10 _ (by decide) (by decide) hcur)
  clear hc1 hgr1 hr1 hT hG hbox hes hn hcur
  go_wp2_with fail
  refine HB0.out.mono ?_
  rintro e w2 ⟨x, hx, rfl, hc2, hg2⟩
  have hb2 := HBX.out.step hbw hc2 hg2
  obtain ⟨⟨f0, f1, fz⟩, g0, g1, gz⟩ := hb2.facts
  have HB2 := Lib.hid hb2
  have HS2 := Lib.hid ((Stays.of_below (C := fun z => w.heap.size + 1 ≤ z) (alloc_below w1 (.cells #[.int .i64 t.kind, .slice p1 t.args.length c1] 26))).trans ⟨hg2.size, fun z hz hl => hg2.block z hl (fun e => by have := Option.some.inj e; omega)⟩)
  clear hc2 hg2 hb2 HB0
  obtain ⟨x0, x10⟩ := hx
  rcases (show x = 0 ∨ x = 1 ∨ x = 2 ∨ x = 3 ∨ 4 ≤ x by omega) with rfl | rfl | rfl | rfl | h4
  · clear f0 f1 fz g0 g1 gz
    go_wp2_with fail
    refine (below_any b 6 w2 (by decide) (by decide) HB2.out.rdy.cur).mono ?_
    rintro e w3 ⟨y, hy, rfl, hc3, hg3⟩
    have hb3 := HB2.out.step hbw hc3 hg3
    obtain ⟨⟨f0, f1, fz⟩, g0, g1, gz⟩ := hb3.facts
    have HB3 := Lib.hid hb3
    clear hc3 hg3 hb3 hy
    go_wp2_with fail
    refine bodyPost_ret (v := .agg #[.int .i64 y, .slice p1 t.args.length c1]) ?_ rfl ?_
    · rw [results_cell1 rfl]
      go_simp
    · exact bent_fin (t := .mk y t.args) (HB3.out.setKind hbw y) hbw (by rw [t.nodes_eq] at hn15; simp only [Ty.nodes]; omega)
  · clear f0 f1 fz g0 g1 gz
    have hd2 := HB2.out.below (Below.refl _ w2).drew
    obtain ⟨⟨f0, f1, fz⟩, g0, g1, gz⟩ := HB2.out.facts
    have hlen : es.length = t.args.length := by rw [← HES.out, List.length_map]
    have hl16 : t.args.length ≤ 15 := by have := nodesS_ge t.args; rw [t.nodes_eq] at hn15; omega
    have HLEN := Lib.hid hlen
    have HD2 := Lib.hid hd2
    have HBW := Lib.hid (fun (W : World) (hW : Below w2.drew.heap.size w2.drew W) => hd2.below hW)
    have HSW := Lib.hid (fun (W : World) (hW : Below w2.drew.heap.size w2.drew W) => (HS2.out.trans (Stays.of_below (Below.refl _ w2).drew)).trans (Stays.of_below hW))
    have HGW := Lib.hid (fun (W : World) (hW : Below w2.drew.heap.size w2.drew W) => (HG.out.stays (HSW.out W hW)))
    have HD := Lib.hid (fun (W : World) (hW : Below w2.drew.heap.size w2.drew W) => (hd2.below hW).facts.1.2.1)
    have HDZ := Lib.hid (fun (W : World) (hW : Below w2.drew.heap.size w2.drew W) => (hd2.below hW).facts.1.2.2)
    have HKB := Lib.hid (fun (W : World) (hW : Below w2.drew.heap.size w2.drew W) (x1 x2 : Value) (w' : World) (g2 cap2 : Nat) (hA : Appd W w' (w.heap.size + 1) 26 2 (.slice p1 t.args.length c1) es.length (ecells es) [x1, x2] g2 cap2) =>
      (((hA.kept w1.heap.size (hd2.below hW).bxlt (fun e => by have := (HG.out.own.lt _ e).2; omega)).1.trans (hd2.below hW).box) : w'.heap[w1.heap.size]? = some (.cells #[.int .i64 t.kind, .slice p1 t.args.length c1] 26 (0, 0))))
    clear hd2 hlen
    go_wp2_with fail
    go_region_law (first
        | (refine step_app1 (w0 := w3) (v := .slice p1 t.args.length c1) (n := es.length) (xs := ecells es) rfl (.tmp 19) (.tmp 21) rfl Try.underlying24 hi hz0 hz1 hz2 rfl (by decide) rfl (HGW.out w3 hb3).own _ rfl (by simp) rfl (fun u hu => by simp at hu; rcases hu with rfl | rfl <;> rfl) (by have := HLEN.out; unfold maxLen; omega) (by have := HLEN.out; omega) (by have := (HBW.out w3 hb3).bxlt; have := HB2.out.lt; omega) ?_; intro w' g2 cap2 hA; have d6b := HKB.out _ hb3 _ _ _ _ _ hA; have d6 : w'.cell? ⟨w1.heap.size, 1, none⟩ = some (.slice p1 t.args.length c1) := cell_of_blk d6b 1; have d6z := unfrozen_of_blk d6b)
        | (go_simp; go_at_call 53; refine (l3Int_any _).mono ?_; rintro e w3 ⟨rfl, hb3⟩; have d4 := HD.out w3 hb3; have d4z := HDZ.out w3 hb3; have d5 := fun (o : Obj) => al_cell d4 o))
    all_goals
      have hbz := box_app (HBW.out w3 hb3) hbw HG.out rfl (HSW.out w3 hb3) hA HES.out
      obtain ⟨wz, hwz⟩ : ∃ wz, w'.setCell ⟨w1.heap.size, 1, none⟩ (.slice (some ⟨g2, 0, none⟩) (es.length + 1) cap2) = wz := ⟨_, rfl⟩
      rw [hwz] at hbz ⊢
      have HBZ := Lib.hid hbz
      clear hwz hA hb3 d4 d4z d5 d6b d6 d6z f0 f1 fz g0 g1 gz
      obtain ⟨⟨f0, f1, fz⟩, g0, g1, gz⟩ := hbz.facts
      clear hbz
      go_wp2_with fail
      refine bodyPost_ret (v := .agg #[.int .i64 t.kind, .slice (some ⟨g2, 0, none⟩) (es.length + 1) cap2]) ?_ rfl ?_
      · rw [results_cell1 rfl]
        go_simp
      · exact bent_fin (t := .mk t.kind (t.args ++ [.mk 1 []])) HBZ.out hbw (by rw [t.nodes_eq] at hn15; simp only [Ty.nodes, nodesS_append, nodesS]; omega)
  · clear f0 f1 fz g0 g1 gz
    go_wp2_with fail
    refine (below_any b 6 w2 (by decide) (by decide) HB2.out.rdy.cur).mono ?_
    rintro e w3 ⟨y, hy, rfl, hc3, hg3⟩
    have HB3 := Lib.hid (HB2.out.step hbw hc3 hg3)
    obtain ⟨y0, y6⟩ := hy
    clear hc3 hg3
    go_wp2_with fail
    go_loopw [5] (fun i wr => ∃ (k : Nat) (u : Ty) (p : Option Addr) (c : Nat), (k : Int) ≤ 1 + y ∧ i = .int .i64 k ∧ u.nodes ≤ 16 + k ∧ Box w b w1.heap.size wr u (.slice p u.args.length c)) (fun i _ => (1 + y).toNat - (intOf i).toNat)
    case atStart => exact ⟨0, t, p1, c1, by omega, rfl, by omega, HB3.out⟩
    case round =>
      obtain ⟨k, u, p, c, hk, rfl, hu, hb⟩ := hrel
      obtain ⟨⟨f0, f1, fz⟩, g0, g1, gz⟩ := hb.facts
      have HB := Lib.hid hb
      clear hb
      by_cases hlk : (k : Int) < 1 + y
      · have HC := Lib.hid (l3Code_any HB.out.tt (by rw [u.nodes_eq] at hu; omega))
        go_wp2_with fail
        refine HC.out.mono ?_
        rintro e w4 ⟨v4, rfl, hg4, hb4⟩
        have hB4 := HB.out.below hb4
        obtain ⟨s4, rfl, hs4⟩ := hg4.ts (w := w) (bx := w1.heap.size) (by have := HB.out.rdy.lt; omega) HB.out.bxlt
        obtain ⟨p4, c4, rfl⟩ := hs4.form
        clear f0 f1 fz g0 g1 gz
        obtain ⟨⟨f0, f1, fz⟩, g0, g1, gz⟩ := hB4.facts
        have HB4 := Lib.hid hB4
        have HS4 := Lib.hid hs4
        clear hB4 hs4 hg4 hb4
        go_wp2_with fail
        go_roundw
        case rel => exact ⟨k + 1, .mk 4 [u], p4, c4, by omega, by go_num, by simp only [Ty.nodes, nodesS]; omega, HB4.out.set hbw HS4.out⟩
        case measure => simp [intOf]; omega
      · go_wp2_with fail
        refine bodyPost_ret (v := .agg #[.int .i64 u.kind, .slice p u.args.length c]) ?_ rfl ?_
        · rw [results_cell1 rfl]
          go_simp
        · exact bent_fin HB.out hbw (by omega)
  · clear f0 f1 fz g0 g1 gz
    go_wp2_with fail
    go_loopw [6] (fun i wr => ∃ (k : Nat) (u : Ty) (p : Option Addr) (c : Nat), k ≤ 3 ∧ i = .int .i64 k ∧ u.nodes + 1 ≤ 16 * 2 ^ k ∧ Box w b w1.heap.size wr u (.slice p u.args.length c)) (fun i _ => 3 - (intOf i).toNat)
    case atStart => exact ⟨0, t, p1, c1, by omega, rfl, by simpa using hn15, HB2.out⟩
    case round =>
      obtain ⟨k, u, p, c, hk, rfl, hu, hb⟩ := hrel
      have hk8 : 2 ^ k ≤ 2 ^ 3 := Nat.pow_le_pow_right (by decide) hk
      have hu2 : u.nodes ≤ 127 := by omega
      have HU := Lib.hid hu
      clear hu hk8
      obtain ⟨⟨f0, f1, fz⟩, g0, g1, gz⟩ := hb.facts
      have HB := Lib.hid hb
      clear hb
      by_cases hlk : (k : Int) < 3
      · have hna : nodesS u.args ≤ 1048576 := by rw [u.nodes_eq] at hu2; omega
        have HC := Lib.hid (l3Fun_any HB.out.tt HB.out.tt hna hna)
        clear hna
        go_wp2_with fail
        refine HC.out.mono ?_
        rintro e w4 ⟨v4, rfl, hg4, hb4⟩
        have hB4 := HB.out.below hb4
        obtain ⟨s4, rfl, hs4⟩ := hg4.ts (w := w) (bx := w1.heap.size) (by have := HB.out.rdy.lt; omega) HB.out.bxlt
        obtain ⟨p4, c4, rfl⟩ := hs4.form
        clear f0 f1 fz g0 g1 gz
        obtain ⟨⟨f0, f1, fz⟩, g0, g1, gz⟩ := hB4.facts
        have HB4 := Lib.hid hB4
        have HS4 := Lib.hid hs4
        clear hB4 hs4 hg4 hb4
        go_wp2_with fail
        go_roundw
        case rel => exact ⟨k + 1, .mk 3 [u, u], p4, c4, by omega, by go_num, by have := HU.out; simp only [Ty.nodes, nodesS, Nat.pow_succ]; omega, HB4.out.set hbw HS4.out⟩
        case measure => simp [intOf]; omega
      · go_wp2_with fail
        refine bodyPost_ret (v := .agg #[.int .i64 u.kind, .slice p u.args.length c]) ?_ rfl ?_
        · rw [results_cell1 rfl]
          go_simp
        · exact bent_fin HB.out hbw (by omega)
  · have e0 : (x == 0) = false := by rw [beq_eq_false_iff_ne]; omega
    have e1 : (x == 1) = false := by rw [beq_eq_false_iff_ne]; omega
    have e2 : (x == 2) = false := by rw [beq_eq_false_iff_ne]; omega
    have e3 : (x == 3) = false := by rw [beq_eq_false_iff_ne]; omega
    go_wp2_with fail
    refine bodyPost_ret (v := .agg #[.int .i64 t.kind, .slice p1 t.args.length c1]) ?_ rfl ?_
    · rw [results_cell1 rfl]
      go_simp
    · exact bent_fin HB2.out hbw (by omega)
end Go.Proofs.Ytjobmgbchpoheaa

