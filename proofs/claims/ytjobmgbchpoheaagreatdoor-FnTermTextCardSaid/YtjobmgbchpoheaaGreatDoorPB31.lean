/-
  Several texts of the proof in one (each says below what it holds): RdI6 RdI7.
-/
import Derived.Test.YtjobmgbchpoheaaGreatDoorPB30
namespace Go.Proofs.YtjobmgbchpoheaaGreatDoor
open Go Go.RowKit

theorem under_mono {R FB : Nat} {E : Nat → Nat} {D D' : Nat} (h : Rdr.Under R FB E D) (hD : D ≤ D') : Rdr.Under R FB E D' := ⟨by have := h.1; omega, by have := h.2.1; omega, fun i hi => by have := h.2.2 i hi; omega⟩
set_option maxRecDepth 100000 in
set_option maxHeartbeats 4000000 in
theorem rec_any {F : RdF} (hF : Bd F) {R FB : Nat} {E : Nat → Nat} {k0 : Nat} (hOk : TermOk F R FB E k0) (l : List UInt8) (k : Nat) (w : World) (hk0 : k0 ≤ k) (hP : Pot k 998) (hl : Small l) (hr : Rdr R FB E l k w) :
    Calls Tryz.prog 55 #[.pointer (some ⟨R, 0, none⟩)] w (FormRet (rdRec F) R FB E w.heap.size l k w) := by
  obtain ⟨w0, hw0, hs0, hb0, r0, r1⟩ := box_new2 w #[.int .i64 0, .string ⟨#[]⟩, .string ⟨#[]⟩, .int .i64 0, .int .i64 0, .slice none 0 0, .int .i64 0, .slice none 0 0, .slice none 0 0] #[.int .i64 9, .string ⟨#[]⟩, .string ⟨#[]⟩, .int .i64 0, .int .i64 0, .slice none 0 0, .int .i64 0, .slice none 0 0, .slice none 0 0] 29 29
  have HW0 := Lib.hid hw0
  have hr0 := hr.below hb0
  have HU := Lib.hid hr.under
  have hub := under_mono hr.under (show w.heap.size ≤ w.heap.size + 1 by omega)
  have HUB := Lib.hid hub
  have HB0 := Lib.hid hb0
  have R0 := Lib.hid r0
  have R1 := Lib.hid r1
  have HS0 := Lib.hid hs0
  have HN := Lib.hid (name_any [32] hl hr0)
  have hl1 : Small (cut [32] (wrest l)) := small_cut (small_wrest hl)
  have hl2 : Small (cut [58] (wrest (cut [32] (wrest l)))) := small_cut (small_wrest hl1)
  have HN2 := Lib.hid (fun (W : World) (h : Rdr R FB E (cut [32] (wrest l)) k W) => name_any [58] hl1 h)
  have HT1 := Lib.hid (fun (W : World) (h : Rdr R FB E (cut [58] (wrest (cut [32] (wrest l)))) k W) => type_any [62] hl2 h)
  have HT2 := Lib.hid (fun (l3 : List UInt8) (h3 : Small l3) (W : World) (h : Rdr R FB E l3 k W) => type_any [46] h3 h)
  have HA := Lib.hid (fun (ty res : Ty) (tp : Option Addr) (tc : Nat) (rp : Option Addr) (rc : Nat) (l4 : List UInt8) (b b2 : Nat) (W : World) (h : Rdr R FB E l4 k W) (hl4 : Small l4) (hn : nodesS ty.args ≤ 512) (hn2 : nodesS res.args ≤ 512) (hb : w.heap.size + 1 ≤ b) (hbb : b ≤ b2) (hbW : b2 ≤ W.heap.size) (ho : OS W ty.args (.slice tp ty.args.length tc) (fun z => b ≤ z ∧ z < b2)) (ho2 : OS W res.args (.slice rp res.args.length rc) (fun z => b2 ≤ z ∧ z < W.heap.size)) =>
    args_any hF hOk 9 (bx (wd l)) (bx (wd (cut [32] (wrest l)))) 0 ty res tp tc rp rc (w.heap.size + 1) (fun z => b ≤ z ∧ z < b2) (fun z => b2 ≤ z ∧ z < W.heap.size) l4 k W hk0 hP hl4 h HUB.out (by omega) (by decide) (small_wd hl) (small_wd hl1) (by omega) (by omega) ho ho2 (fun z hz => ⟨by omega, by omega, by omega⟩) (fun z hz => ⟨by omega, hz.2⟩))
  clear hr hr0 hub hb0 r0 r1 hs0 hw0
  go_enter Tryz.func55, Tryz.ntmps55
  go_wp2_with fail
  rw [HW0.out]
  refine HN.out.mono ?_
  rintro e w1 ⟨rfl, hr1, hg1⟩
  have HC1 := Lib.hid (HN2.out w1 hr1)
  have HG1 := Lib.hid hg1
  clear hr1 hg1
  go_wp2_with fail
  refine HC1.out.mono ?_
  rintro e w2 ⟨rfl, hr2, hg2⟩
  have hgg := grownBy_trans HG1.out hg2
  have hne : ∀ z, z ≠ R → (some z : Option Nat) ≠ some R := fun z hz e => hz (Option.some.inj e)
  have hRw := HU.out.1
  have hs0' := HS0.out
  have hB2 := (hgg.block (w.heap.size + 1) (by omega) (hne _ (by omega))).trans R1.out
  have hO2 := (hgg.block w.heap.size (by omega) (hne _ (by omega))).trans R0.out
  have yz := unfrozen_of_blk hB2
  have y1 : w2.cell? ⟨w.heap.size + 1, 1, none⟩ = some (.string E0) := cell_of_blk hB2 1
  have y2 : w2.cell? ⟨w.heap.size + 1, 2, none⟩ = some (.string E0) := cell_of_blk hB2 2
  have HGG := Lib.hid hgg
  have HR2 := Lib.hid hr2
  have BB2 := Lib.hid hB2
  have BO2 := Lib.hid hO2
  clear hr2 hg2 hgg hB2 hO2 hRw hs0'
  go_wp2_with fail
  obtain ⟨w3, hw3⟩ : ∃ w3, (w2.setCell ⟨w.heap.size + 1, 1, none⟩ (.string (bx (wd l)))).setCell ⟨w.heap.size + 1, 2, none⟩ (.string (bx (wd (cut [32] (wrest l))))) = w3 := ⟨_, rfl⟩
  have hb3 : Below (w.heap.size + 1) w2 w3 := by
    rw [← hw3]
    exact ((Below.refl _ w2).setCell (p := ⟨w.heap.size + 1, 1, none⟩) (Nat.le_refl _) _).setCell (p := ⟨w.heap.size + 1, 2, none⟩) (Nat.le_refl _) _
  have hB3 : w3.heap[w.heap.size + 1]? = some (.cells (eC 9 (bx (wd l)) (bx (wd (cut [32] (wrest l)))) 0 Z0 Z0 none 0 none 0 none 0 0) 29 (0, 0)) := by
    rw [← hw3]
    exact heap_setCell_same _ _ 2 _ _ (.string (bx (wd (cut [32] (wrest l))))) (heap_setCell_same w2 _ 1 _ _ (.string (bx (wd l))) BB2.out)
  have hz3 : w3.heap.size = w2.heap.size := by rw [← hw3]; simp [World.setCell]
  rw [hw3]
  have hr3 := HR2.out.belowAt HUB.out hb3
  have hO3 := (hb3.block w.heap.size (by omega)).trans BO2.out
  have HC3 := Lib.hid (HT1.out w3 hr3)
  have HB3 := Lib.hid hb3
  have BB3 := Lib.hid hB3
  have BO3 := Lib.hid hO3
  have HZ3 := Lib.hid hz3
  clear hw3 hb3 hB3 hr3 hO3 hz3 y1 y2 yz
  refine HC3.out.mono ?_
  rintro e w4 ⟨ty, p4, c4, l4, rfl, ht4, ho4, hr4, hg4⟩
  obtain ⟨hn4, hle4⟩ := rdTy_bd ht4
  have hl4 : Small l4 := by unfold Small at *; omega
  have HC4 := Lib.hid (HT2.out l4 hl4 w4 hr4)
  have HG4 := Lib.hid hg4
  have HT4 := Lib.hid ht4
  have HO4 := Lib.hid ho4
  clear hr4 hg4 ht4 ho4
  go_wp2_with fail
  refine HC4.out.mono ?_
  rintro e w5 ⟨res, p5, c5, l5, rfl, ht5, ho5, hr5, hg5⟩
  obtain ⟨hn5, hle5⟩ := rdTy_bd ht5
  have hl5 : Small l5 := by unfold Small at *; omega
  have hg35 := grownBy_trans HG4.out hg5
  have hRw := HU.out.1
  have hs0' := HS0.out
  have hg12 := HGG.out.size
  have hz3 := HZ3.out
  have hz4 := HG4.out.size
  have hz5 := hg5.size
  have hB5 := (hg35.block (w.heap.size + 1) (by omega) (hne _ (by omega))).trans BB3.out
  have hO5 := (hg35.block w.heap.size (by omega) (hne _ (by omega))).trans BO3.out
  have yz := unfrozen_of_blk hB5
  have y4 : w5.cell? ⟨w.heap.size + 1, 4, none⟩ = some (.int .i64 0) := cell_of_blk hB5 4
  have y5 : w5.cell? ⟨w.heap.size + 1, 5, none⟩ = some (.slice none 0 0) := cell_of_blk hB5 5
  have y6 : w5.cell? ⟨w.heap.size + 1, 6, none⟩ = some (.int .i64 0) := cell_of_blk hB5 6
  have y7 : w5.cell? ⟨w.heap.size + 1, 7, none⟩ = some (.slice none 0 0) := cell_of_blk hB5 7
  obtain ⟨w6, hw6⟩ : ∃ w6, (((w5.setCell ⟨w.heap.size + 1, 4, none⟩ (.int .i64 ty.kind)).setCell ⟨w.heap.size + 1, 5, none⟩ (.slice p4 ty.args.length c4)).setCell ⟨w.heap.size + 1, 6, none⟩ (.int .i64 res.kind)).setCell ⟨w.heap.size + 1, 7, none⟩ (.slice p5 res.args.length c5) = w6 := ⟨_, rfl⟩
  have hb6 : Below (w.heap.size + 1) w5 w6 := by
    rw [← hw6]
    exact ((((Below.refl _ w5).setCell (p := ⟨w.heap.size + 1, 4, none⟩) (Nat.le_refl _) _).setCell (p := ⟨w.heap.size + 1, 5, none⟩) (Nat.le_refl _) _).setCell (p := ⟨w.heap.size + 1, 6, none⟩) (Nat.le_refl _) _).setCell (p := ⟨w.heap.size + 1, 7, none⟩) (Nat.le_refl _) _
  have hst6 : ∀ F0 : Nat → Prop, ¬ F0 (w.heap.size + 1) → Stays F0 w5 w6 := fun F0 h0 => by
    rw [← hw6]
    exact (((setCell_stays _ _ _ _ F0 h0).trans (setCell_stays _ _ _ _ F0 h0)).trans (setCell_stays _ _ _ _ F0 h0)).trans (setCell_stays _ _ _ _ F0 h0)
  have hB6 : w6.heap[w.heap.size + 1]? = some (.cells (eC 9 (bx (wd l)) (bx (wd (cut [32] (wrest l)))) 0 ty res p4 c4 p5 c5 none 0 0) 29 (0, 0)) := by
    rw [← hw6]
    exact heap_setCell_same _ _ 7 _ _ (.slice p5 res.args.length c5) (heap_setCell_same _ _ 6 _ _ (.int .i64 res.kind) (heap_setCell_same _ _ 5 _ _ (.slice p4 ty.args.length c4) (heap_setCell_same w5 _ 4 _ _ (.int .i64 ty.kind) hB5)))
  have hz6 : w6.heap.size = w5.heap.size := by rw [← hw6]; simp [World.setCell]
  have d0 : w6.cell? ⟨w.heap.size + 1, 0, none⟩ = some (.int .i64 9) := cell_of_blk hB6 0
  have d1 : w6.cell? ⟨w.heap.size + 1, 1, none⟩ = some (.string (bx (wd l))) := cell_of_blk hB6 1
  have d2 : w6.cell? ⟨w.heap.size + 1, 2, none⟩ = some (.string (bx (wd (cut [32] (wrest l))))) := cell_of_blk hB6 2
  have d3 : w6.cell? ⟨w.heap.size + 1, 3, none⟩ = some (.int .i64 0) := cell_of_blk hB6 3
  have d4 : w6.cell? ⟨w.heap.size + 1, 4, none⟩ = some (.int .i64 ty.kind) := cell_of_blk hB6 4
  have d5 : w6.cell? ⟨w.heap.size + 1, 5, none⟩ = some (.slice p4 ty.args.length c4) := cell_of_blk hB6 5
  have d6 : w6.cell? ⟨w.heap.size + 1, 6, none⟩ = some (.int .i64 res.kind) := cell_of_blk hB6 6
  have d7 : w6.cell? ⟨w.heap.size + 1, 7, none⟩ = some (.slice p5 res.args.length c5) := cell_of_blk hB6 7
  have d8 : w6.cell? ⟨w.heap.size + 1, 8, none⟩ = some (.slice none 0 0) := cell_of_blk hB6 8
  have hr6 := hr5.belowAt HUB.out hb6
  have hg06 := gb_more (D := w.heap.size + 1) (grownBy_trans (gb_more (D := w.heap.size + 1) (grownBy_trans (gb_below HB0.out (some R)) HGG.out) (by omega) HB3.out) hg35) (by omega) hb6
  have HG := Lib.hid hg06
  have RO := Lib.hid ((hb6.block w.heap.size (by omega)).trans hO5)
  have HC := Lib.hid (HA.out ty res p4 c4 p5 c5 l5 w3.heap.size w4.heap.size w6 hr6 hl5 hn4 hn5 (by omega) hz4 (by omega) ((HO4.out.stays (stays_grown hg5 (fun z hz => by omega))).stays (hst6 _ (by omega))) ((ho5.stays (hst6 _ (by omega))).mono (fun z hz => by omega)))
  have HT5 := Lib.hid ht5
  have HZ6 : Hid (w.heap.size < w6.heap.size) := Lib.hid (by omega)
  clear ht5 ho5 hr5 hg5 hg35 hB5 hO5 hb6 hst6 hB6 hz6 hr6 hg06 hle4 hle5 hRw hs0' hg12 hz3 hz4 hz5
  go_wp2_with fail
  refine HC.out.mono ?_
  rintro e w9 ⟨hg9, x, k9, l9, v9, rfl, hR9, ⟨tp, tc, rp, rc, p, c, rfl, hO9⟩, hr9⟩
  have hgw := grownBy_trans HG.out hg9
  have hro := (hg9.block w.heap.size (by exact HZ6.out) (fun e => by have := HU.out.1; have := Option.some.inj e; omega)).trans RO.out
  have r0 := cell_of_blk hro 0
  have r1 := cell_of_blk hro 1
  have r2 := cell_of_blk hro 2
  have r3 := cell_of_blk hro 3
  have r4 := cell_of_blk hro 4
  have r5 := cell_of_blk hro 5
  have r6 := cell_of_blk hro 6
  have r7 := cell_of_blk hro 7
  have r8 := cell_of_blk hro 8
  have rz := unfrozen_of_blk hro
  simp only [List.getElem?_toArray, List.getElem?_cons_zero, List.getElem?_cons_succ] at r0 r1 r2 r3 r4 r5 r6 r7 r8
  have HX := Lib.hid (And.intro hgw (And.intro hR9 (And.intro hO9 hr9)))
  clear hg9 hgw hR9 hO9 hr9 hro
  go_wp2_with fail
  obtain ⟨hg1, hR1, hO1, hr1⟩ := HX.out
  refine bodyPost_ret (v := tmV x tp tc rp rc p c) ?_ rfl ?_
  · rw [results_cell1 rfl]
    go_simp
    all_goals (repeat' apply And.intro) <;> rfl
  · exact form_out HU.out hg1 ⟨_, ty, l4, res, l5, rfl, HT4.out, HT5.out, hR1⟩ hO1 hr1
end Go.Proofs.YtjobmgbchpoheaaGreatDoor
namespace Go.Proofs.YtjobmgbchpoheaaGreatDoor
open Go Go.RowKit
theorem OSt.two {w : World} {d1 d2 : List D} {v1 v2 : List Value} {F1 F2 F : Nat → Prop} (h1 : OSt w d1 v1 F1) (h2 : OSt w d2 v2 F2) (a1 : ∀ z, F1 z → F z ∧ ¬ F2 z) (a2 : ∀ z, F2 z → F z) : OSt w (d1 ++ d2) (v1 ++ v2) F := by
  obtain ⟨l1, G1, p1, p2, p3⟩ := h1
  obtain ⟨l2, G2, q1, q2, q3⟩ := h2
  refine ⟨by rw [List.length_append, List.length_append, l1, l2], fun i z => if i < d1.length then G1 i z else G2 (i - d1.length) z, fun i d v hd hv => ?_, fun i z hi hz => ?_, fun i j z hi hj hij hz1 hz2 => ?_⟩
  · by_cases e : i < d1.length
    · rw [List.getElem?_append_left e] at hd
      rw [List.getElem?_append_left (by omega)] at hv
      simp only [if_pos e]
      exact p1 i d v hd hv
    · rw [List.getElem?_append_right (by omega)] at hd
      rw [List.getElem?_append_right (by omega), l1] at hv
      simp only [if_neg e]
      exact q1 _ d v hd hv
  · rw [List.length_append] at hi
    by_cases e : i < d1.length
    · simp only [if_pos e] at hz; exact (a1 z (p2 i z e hz)).1
    · simp only [if_neg e] at hz; exact a2 z (q2 _ z (by omega) hz)
  · rw [List.length_append] at hi hj
    by_cases ei : i < d1.length
    · simp only [if_pos ei] at hz1
      by_cases ej : j < d1.length
      · simp only [if_pos ej] at hz2; exact p3 i j z ei ej hij hz1 hz2
      · simp only [if_neg ej] at hz2; exact (a1 z (p2 i z ei hz1)).2 (q2 _ z (by omega) hz2)
    · simp only [if_neg ei] at hz1
      by_cases ej : j < d1.length
      · simp only [if_pos ej] at hz2; exact (a1 z (p2 j z ej hz2)).2 (q2 _ z (by omega) hz1)
      · simp only [if_neg ej] at hz2; exact q3 _ _ z (by omega) (by omega) (by omega) hz1 hz2
theorem DO.ofSt {w : World} {T : TypeId} {k n g : Nat} {ds : List D} {vs : List Value} {F' F : Nat → Prop} (h : OSt w ds vs F') (hl : ds.length = n * k) (hm : n ≤ maxLen) (hb : w.heap[g]? = some (.cells vs.toArray T (0, 0))) (hF : F g) (hF' : ∀ z, F' z → F z ∧ z ≠ g) :
    DO w (.rows T k n ds) (.slice (some ⟨g, 0, none⟩) n n) F := by
  obtain ⟨l1, G, p1, p2, p3⟩ := h
  have hv : ∀ i, i < n * k → vs[i]? = some ((vs[i]?).getD .nilIface) := fun i hi => by rw [List.getElem?_eq_getElem (by omega)]; rfl
  exact .rows vs.toArray (fun i => (vs[i]?).getD .nilIface) G hb (by simp; omega) (Nat.le_refl _) hm hl hF (fun i hi => by simpa using hv i hi) (fun i d hd => p1 i d _ hd (hv i (by have := (List.getElem?_eq_some_iff.1 hd).1; omega)))
    (fun i z hi hz => hF' z (p2 i z (by omega) hz)) (fun i j z hi hj hij h1 h2 => p3 i j z (by omega) (by omega) hij h1 h2)
theorem kbN0 {W w1 : World} {p0 p1 p2 p3 p4 p5 p6 p7 p8 : Addr} {v0 v1 v2 v3 v4 v5 v6 v7 v8 : Value} {r : Option Nat} (hb : W.grownBy w1 r) (h : W.cell? p0 = some v0 ∧ W.cell? p1 = some v1 ∧ W.cell? p2 = some v2 ∧ W.cell? p3 = some v3 ∧ W.cell? p4 = some v4 ∧ W.cell? p5 = some v5 ∧ W.cell? p6 = some v6 ∧ W.cell? p7 = some v7 ∧ W.cell? p8 = some v8)
    (n0 : some p0.block ≠ r) (n1 : some p1.block ≠ r) (n2 : some p2.block ≠ r) (n3 : some p3.block ≠ r) (n4 : some p4.block ≠ r) (n5 : some p5.block ≠ r) (n6 : some p6.block ≠ r) (n7 : some p7.block ≠ r) (n8 : some p8.block ≠ r) :
    w1.cell? p0 = some v0 ∧ w1.cell? p1 = some v1 ∧ w1.cell? p2 = some v2 ∧ w1.cell? p3 = some v3 ∧ w1.cell? p4 = some v4 ∧ w1.cell? p5 = some v5 ∧ w1.cell? p6 = some v6 ∧ w1.cell? p7 = some v7 ∧ w1.cell? p8 = some v8 := by
  have k : ∀ {p : Addr} {v : Value}, W.cell? p = some v → some p.block ≠ r → w1.cell? p = some v := fun {p v} hc hn => (World.cell?_of_block (hb.block p.block (World.block_lt_of_cell? W _ hc) hn)).trans hc
  obtain ⟨h0, h1, h2, h3, h4, h5, h6, h7, h8⟩ := h
  exact ⟨k h0 n0, k h1 n1, k h2 n2, k h3 n3, k h4 n4, k h5 n5, k h6 n6, k h7 n7, k h8 n8⟩

set_option maxRecDepth 100000 in
set_option maxHeartbeats 4000000 in
theorem pair_any {F : RdF} (hF : Bd F) {R FB : Nat} {E : Nat → Nat} {k0 : Nat} (hOk : TermOk F R FB E k0) (l : List UInt8) (k : Nat) (w : World) (hk0 : k0 ≤ k) (hP : Pot k 998) (hl : Small l) (hr : Rdr R FB E l k w) :
    Calls Tryz.prog 57 #[.pointer (some ⟨R, 0, none⟩)] w (FormRet (rdPair F) R FB E w.heap.size l k w) := by
  obtain ⟨w0, hw0, hs0, hb0, r0⟩ := box_new w zeroC 29
  have hr0 := hr.below hb0
  have HU := Lib.hid hr.under
  have HB0 := Lib.hid hb0
  have R0 := Lib.hid r0
  have HS0 := Lib.hid hs0
  have HT := Lib.hid (hOk k l w0 hk0 (by unfold Pot at *; omega) hl hr0)
  have HOK := Lib.hid hOk
  clear hr hr0 hb0 r0 hs0 hOk
  go_enter Tryz.func57, Tryz.ntmps57
  go_wp2_with fail
  refine HT.out.mono ?_
  rintro e w1 ⟨hg1, x, k1, l1, v1, rfl, hF1, ⟨tp1, tc1, rp1, rc1, p1, c1, rfl, hO1⟩, hr1⟩
  obtain ⟨b1, b2, b3, b4⟩ := hF _ _ _ _ _ hF1
  have hl1 : Small l1 := by unfold Small at *; omega
  have hP1 : Pot k1 999 := by unfold Pot at *; omega
  obtain ⟨w2, hw2, hs2, hb2, r2⟩ := box_new w1 (tmC x tp1 tc1 rp1 rc1 p1 c1) 29
  have hr2 := hr1.below hb2
  obtain ⟨c0', c1', c2', cz⟩ := hr2.cells
  have HW := Lib.hid (And.intro hg1 (And.intro hF1 (And.intro hO1 hr2)))
  have HB2 := Lib.hid hb2
  have R2 := Lib.hid r2
  have HS2 := Lib.hid hs2
  have HBD := Lib.hid (And.intro b1 b2)
  clear hg1 hF1 hO1 hr1 hr2 hb2 r2 hs2 b1 b2 b3 b4
  have hx1 : (⟨l1.toArray⟩ : ByteArray).extract 0 (min (1 : Int) (l1.length : Int)).toNat = bx (l1.take 1) := by
    have e : (min (1 : Int) (l1.length : Int)).toNat = min 1 l1.length := by omega
    rw [e, show (⟨l1.toArray⟩ : ByteArray) = bx l1 from rfl, bx_take]
    congr 1
    rcases l1 with _ | ⟨ch, l2⟩
    · rfl
    · simp
  have i0 : (0 : Int) ≤ min 1 (l1.length : Int) := by omega
  have i1 : min 1 (l1.length : Int) ≤ (l1.length : Int) := by omega
  go_wp2_with fail
  go_region
  go_wp2_with fail
  have hrd := HW.out.2.2.2
  refine (skip_any (l1.take 1) (hrd.drew)).mono ?_
  rintro e w3 ⟨rfl, hr3, hg3⟩
  have hgw3 : w2.grownBy w3 (some R) := ⟨hg3.os, hg3.tape, hg3.output, hg3.size, hg3.block⟩
  have hRw := HU.out.1
  have hs0' := HS0.out
  have hz1 := HW.out.1.size
  have hne : ∀ z, z ≠ R → (some z : Option Nat) ≠ some R := fun z hz e => hz (Option.some.inj e)
  have hs2' := HS2.out
  have hB3 := (hgw3.block w1.heap.size (by omega) (hne _ (by omega))).trans R2.out
  have d0 : w3.cell? ⟨w1.heap.size, 0, none⟩ = some (.int .i64 x.kind) := cell_of_blk hB3 0
  have d1 : w3.cell? ⟨w1.heap.size, 1, none⟩ = some (.string x.name) := cell_of_blk hB3 1
  have d2 : w3.cell? ⟨w1.heap.size, 2, none⟩ = some (.string x.other) := cell_of_blk hB3 2
  have d3 : w3.cell? ⟨w1.heap.size, 3, none⟩ = some (.int .i64 x.n) := cell_of_blk hB3 3
  have d4 : w3.cell? ⟨w1.heap.size, 4, none⟩ = some (.int .i64 x.ty.kind) := cell_of_blk hB3 4
  have d5 : w3.cell? ⟨w1.heap.size, 5, none⟩ = some (.slice tp1 x.ty.args.length tc1) := cell_of_blk hB3 5
  have d6 : w3.cell? ⟨w1.heap.size, 6, none⟩ = some (.int .i64 x.res.kind) := cell_of_blk hB3 6
  have d7 : w3.cell? ⟨w1.heap.size, 7, none⟩ = some (.slice rp1 x.res.args.length rc1) := cell_of_blk hB3 7
  have d8 : w3.cell? ⟨w1.heap.size, 8, none⟩ = some (.slice p1 x.args.length c1) := cell_of_blk hB3 8
  have HC := Lib.hid (HOK.out k1 (cut (l1.take 1) l1) w3.drew (by have := HBD.out.1; omega) (by unfold Pot at *; omega) (small_cut hl1) hr3.drew)
  have HG3 := Lib.hid hgw3
  have hnb : (some w1.heap.size : Option Nat) ≠ some R := hne _ (by omega)
  clear hr3 hg3 hgw3 hRw hs0' hz1 hs2' hB3 hrd hx1 i0 i1 c0' c1' c2' cz
  go_wp2_with fail
  go_region_held3 (fun w' => w'.cell? ⟨w1.heap.size, 0, none⟩ = some (.int .i64 x.kind) ∧ w'.cell? ⟨w1.heap.size, 1, none⟩ = some (.string x.name) ∧ w'.cell? ⟨w1.heap.size, 2, none⟩ = some (.string x.other) ∧ w'.cell? ⟨w1.heap.size, 3, none⟩ = some (.int .i64 x.n) ∧ w'.cell? ⟨w1.heap.size, 4, none⟩ = some (.int .i64 x.ty.kind) ∧ w'.cell? ⟨w1.heap.size, 5, none⟩ = some (.slice tp1 x.ty.args.length tc1) ∧ w'.cell? ⟨w1.heap.size, 6, none⟩ = some (.int .i64 x.res.kind) ∧ w'.cell? ⟨w1.heap.size, 7, none⟩ = some (.slice rp1 x.res.args.length rc1) ∧ w'.cell? ⟨w1.heap.size, 8, none⟩ = some (.slice p1 x.args.length c1))
    (first
      | (go_keep; done)
      | exact ⟨d0, d1, d2, d3, d4, d5, d6, d7, d8⟩
      | exact kbN0 hg4 ⟨d0, d1, d2, d3, d4, d5, d6, d7, d8⟩ hnb hnb hnb hnb hnb hnb hnb hnb hnb
      | exact kbN0 (gb_below (al_below _ _) none) (by assumption) (by simp) (by simp) (by simp) (by simp) (by simp) (by simp) (by simp) (by simp) (by simp)
      | fail)
    (first
      | (go_at_call 24; refine HC.out.mono ?_; rintro e w4 ⟨hg4, y, k4, l4, v4, rfl, hF4, ⟨tp4, tc4, rp4, rc4, p4, c4, rfl, hO4⟩, hr4⟩)
      | fail)
  rename_i hH
  clear hH
  obtain ⟨w5, hw5, hs5, hb5, r5⟩ := box_new w4 #[.int .i64 x.kind, .string x.name, .string x.other, .int .i64 x.n, .int .i64 x.ty.kind, .slice tp1 x.ty.args.length tc1, .int .i64 x.res.kind, .slice rp1 x.res.args.length rc1, .slice p1 x.args.length c1, .int .i64 y.kind, .string y.name, .string y.other, .int .i64 y.n, .int .i64 y.ty.kind, .slice tp4 y.ty.args.length tc4, .int .i64 y.res.kind, .slice rp4 y.res.args.length rc4, .slice p4 y.args.length c4] 29
  have hg4' : w3.grownBy w4 (some R) := ⟨hg4.os, hg4.tape, hg4.output, hg4.size, hg4.block⟩
  have HSK := Lib.hid (skip_any [41] (hr4.below hb5))
  have HG4 := Lib.hid hg4'
  have HF4 := Lib.hid hF4
  have HO4 := Lib.hid hO4
  have HB5 := Lib.hid hb5
  have R5 := Lib.hid r5
  have HS5 := Lib.hid hs5
  clear hg4 hg4' hF4 hO4 hr4 hb5 r5 hs5 d0 d1 d2 d3 d4 d5 d6 d7 d8
  go_wp2_with fail
  refine HSK.out.mono ?_
  rintro e w6 ⟨rfl, hr6, hg6⟩
  have hRw := HU.out.1
  have hs0' := HS0.out
  have hz1 := HW.out.1.size
  have hs2' := HS2.out
  have hz3 := HG3.out.size
  have hz4 := HG4.out.size
  have hs5' := HS5.out
  have hz6 := hg6.size
  have g46 := grownBy_trans (gb_below HB5.out (some R)) hg6
  have g16 := grownBy_trans (grownBy_trans (grownBy_trans (gb_below HB2.out (some R)) HG3.out) HG4.out) g46
  have hx6 := HW.out.2.2.1.stays (stays_grown g16 (fun z hz => by omega))
  have hy6 := HO4.out.stays (stays_grown g46 (fun z hz => by have h1 : w3.drew.heap.size ≤ z := hz.1; have : w3.drew.heap.size = w3.heap.size := rfl; omega))
  have hrow := (hg6.block w4.heap.size (by omega) (hne _ (by omega))).trans R5.out
  have hdo : DO w6 (tmD [x, y]) (.slice (some ⟨w4.heap.size, 0, none⟩) 2 2) (fun z => w.heap.size + 1 ≤ z ∧ z < w6.heap.size) := by
    have e : flatTm [x, y] = x.ds ++ y.ds := by simp [flatTm]
    show DO w6 (.rows 29 9 2 (flatTm [x, y])) _ _
    rw [e]
    refine DO.ofSt (vs := tmL x tp1 tc1 rp1 rc1 p1 c1 ++ tmL y tp4 tc4 rp4 rc4 p4 c4) (F' := fun z => (w.heap.size + 1 ≤ z ∧ z < w1.heap.size) ∨ (w3.heap.size ≤ z ∧ z < w4.heap.size)) (OSt.two hx6 hy6 (fun z hz => ⟨Or.inl ⟨by omega, hz.2⟩, fun h => by have h1 : w3.drew.heap.size ≤ z := h.1; have : w3.drew.heap.size = w3.heap.size := rfl; omega⟩) (fun z hz => Or.inr ⟨hz.1, hz.2⟩)) (by rw [List.length_append, x.ds_len, y.ds_len]) (by unfold maxLen; omega) hrow ⟨by omega, by omega⟩ (fun z hz => by omega)
  have HDO := Lib.hid hdo
  have HG6 := Lib.hid (grownBy_trans (grownBy_trans (gb_below HB0.out (some R)) HW.out.1) g16)
  have HR6 := Lib.hid hr6
  have ho6 := (g16.block w.heap.size (by omega) (hne _ (by omega))).trans ((HW.out.1.block w.heap.size (by omega) (hne _ (by omega))).trans R0.out)
  have r0 := cell_of_blk ho6 0
  have r1 := cell_of_blk ho6 1
  have r2 := cell_of_blk ho6 2
  have r3 := cell_of_blk ho6 3
  have r4 := cell_of_blk ho6 4
  have r5 := cell_of_blk ho6 5
  have r6 := cell_of_blk ho6 6
  have r7 := cell_of_blk ho6 7
  have r8 := cell_of_blk ho6 8
  have rz := unfrozen_of_blk ho6
  simp only [List.getElem?_toArray, List.getElem?_cons_zero, List.getElem?_cons_succ] at r0 r1 r2 r3 r4 r5 r6 r7 r8
  clear hRw hs0' hz1 hs2' hz3 hz4 hs5' hz6 g46 g16 hx6 hy6 hrow hdo hr6 hg6 ho6 hnb
  by_cases hs : l1.take 1 = [32]
  · have hc : (l1.take 1 == [32]) = true := by rw [hs]; rfl
    have HPM := Lib.hid (show Tm.mk 7 E0 E0 0 Z0 Z0 [x, y] = pairM (l1.take 1) x y by unfold pairM; rw [if_pos hs])
    clear hs
    go_wp2_with fail
    refine bodyPost_ret (v := tmV (Tm.mk 7 E0 E0 0 Z0 Z0 [x, y]) none 0 none 0 (some ⟨w4.heap.size, 0, none⟩) 2) ?_ rfl ?_
    · rw [results_cell1 rfl]
      go_simp
      all_goals (repeat' apply And.intro) <;> rfl
    · exact form_out (t := Tm.mk 7 E0 E0 0 Z0 Z0 [x, y]) HU.out HG6.out ⟨x, k1, l1, y, l4, HW.out.2.1, HF4.out, rfl, HPM.out⟩ (OSt9 (os_nil _ (fun _ => False)) (os_nil _ (fun _ => False)) HDO.out (fun z hz => hz.elim) (fun z hz => hz.elim) (fun z hz => hz)) HR6.out
  · have hc : (l1.take 1 == [32]) = false := by simpa using hs
    have HPM := Lib.hid (show Tm.mk 4 (bx (l1.take 1)) E0 0 Z0 Z0 [x, y] = pairM (l1.take 1) x y by unfold pairM; rw [if_neg hs])
    clear hs
    go_wp2_with fail
    refine bodyPost_ret (v := tmV (Tm.mk 4 (bx (l1.take 1)) E0 0 Z0 Z0 [x, y]) none 0 none 0 (some ⟨w4.heap.size, 0, none⟩) 2) ?_ rfl ?_
    · rw [results_cell1 rfl]
      go_simp
      all_goals (repeat' apply And.intro) <;> rfl
    · exact form_out (t := Tm.mk 4 (bx (l1.take 1)) E0 0 Z0 Z0 [x, y]) HU.out HG6.out ⟨x, k1, l1, y, l4, HW.out.2.1, HF4.out, rfl, HPM.out⟩ (OSt9 (os_nil _ (fun _ => False)) (os_nil _ (fun _ => False)) HDO.out (fun z hz => hz.elim) (fun z hz => hz.elim) (fun z hz => hz)) HR6.out
end Go.Proofs.YtjobmgbchpoheaaGreatDoor
