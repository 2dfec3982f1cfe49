/-
  Several texts of the proof in one (each says below what it holds): RdI7 TmRead2.
-/
import Derived.Test.YtjobmgbchpoheaaGreatDoorPA29
import Derived.Test.YtjobmgbchpoheaaGreatDoorPA13
namespace Go.Proofs.YtjobmgbchpoheaaGreatDoor
open Go Go.RowKit
theorem OSt.two {w : World} {d1 d2 : List D} {v1 v2 : List Value} {F1 F2 F : Nat → Prop} (h1 : OSt w d1 v1 F1) (h2 : OSt w d2 v2 F2) (a1 : ∀ z, F1 z → F z ∧ ¬ F2 z) (a2 : ∀ z, F2 z → F z) : OSt w (d1 ++ d2) (v1 ++ v2) F := by
  obtain ⟨l1, G1, p1, p2, p3⟩ := h1
  obtain ⟨l2, G2, q1, q2, q3⟩ := h2
  refine ⟨by rw [List.length_append, List.length_append, l1, l2], fun i z => if i < d1.length then G1 i z else G2 (i - d1.length) z, fun i d v hd hv => ?_, fun i z hi hz => ?_, fun i j z hi hj hij hz1 hz2 => ?_⟩
  · by_cases e : i < d1.length
    · rw [List.getElem?_append_left e] at hd
      rw [List.getElem?_append_left (by omega)] at hv
      simp only [if_pos e]
      exact p1 i d v hd hv
    · rw [List.getElem?_append_right (by omega)] at hd
      rw [List.getElem?_append_right (by omega), l1] at hv
      simp only [if_neg e]
      exact q1 _ d v hd hv
  · rw [List.length_append] at hi
    by_cases e : i < d1.length
    · simp only [if_pos e] at hz; exact (a1 z (p2 i z e hz)).1
    · simp only [if_neg e] at hz; exact a2 z (q2 _ z (by omega) hz)
  · rw [List.length_append] at hi hj
    by_cases ei : i < d1.length
    · simp only [if_pos ei] at hz1
      by_cases ej : j < d1.length
      · simp only [if_pos ej] at hz2; exact p3 i j z ei ej hij hz1 hz2
      · simp only [if_neg ej] at hz2; exact (a1 z (p2 i z ei hz1)).2 (q2 _ z (by omega) hz2)
    · simp only [if_neg ei] at hz1
      by_cases ej : j < d1.length
      · simp only [if_pos ej] at hz2; exact (a1 z (p2 j z ej hz2)).2 (q2 _ z (by omega) hz1)
      · simp only [if_neg ej] at hz2; exact q3 _ _ z (by omega) (by omega) (by omega) hz1 hz2
theorem DO.ofSt {w : World} {T : TypeId} {k n g : Nat} {ds : List D} {vs : List Value} {F' F : Nat → Prop} (h : OSt w ds vs F') (hl : ds.length = n * k) (hm : n ≤ maxLen) (hb : w.heap[g]? = some (.cells vs.toArray T (0, 0))) (hF : F g) (hF' : ∀ z, F' z → F z ∧ z ≠ g) :
    DO w (.rows T k n ds) (.slice (some ⟨g, 0, none⟩) n n) F := by
  obtain ⟨l1, G, p1, p2, p3⟩ := h
  have hv : ∀ i, i < n * k → vs[i]? = some ((vs[i]?).getD .nilIface) := fun i hi => by rw [List.getElem?_eq_getElem (by omega)]; rfl
  exact .rows vs.toArray (fun i => (vs[i]?).getD .nilIface) G hb (by simp; omega) (Nat.le_refl _) hm hl hF (fun i hi => by simpa using hv i hi) (fun i d hd => p1 i d _ hd (hv i (by have := (List.getElem?_eq_some_iff.1 hd).1; omega)))
    (fun i z hi hz => hF' z (p2 i z (by omega) hz)) (fun i j z hi hj hij h1 h2 => p3 i j z (by omega) (by omega) hij h1 h2)
theorem kbN0 {W w1 : World} {p0 p1 p2 p3 p4 p5 p6 p7 p8 : Addr} {v0 v1 v2 v3 v4 v5 v6 v7 v8 : Value} {r : Option Nat} (hb : W.grownBy w1 r) (h : W.cell? p0 = some v0 ∧ W.cell? p1 = some v1 ∧ W.cell? p2 = some v2 ∧ W.cell? p3 = some v3 ∧ W.cell? p4 = some v4 ∧ W.cell? p5 = some v5 ∧ W.cell? p6 = some v6 ∧ W.cell? p7 = some v7 ∧ W.cell? p8 = some v8)
    (n0 : some p0.block ≠ r) (n1 : some p1.block ≠ r) (n2 : some p2.block ≠ r) (n3 : some p3.block ≠ r) (n4 : some p4.block ≠ r) (n5 : some p5.block ≠ r) (n6 : some p6.block ≠ r) (n7 : some p7.block ≠ r) (n8 : some p8.block ≠ r) :
    w1.cell? p0 = some v0 ∧ w1.cell? p1 = some v1 ∧ w1.cell? p2 = some v2 ∧ w1.cell? p3 = some v3 ∧ w1.cell? p4 = some v4 ∧ w1.cell? p5 = some v5 ∧ w1.cell? p6 = some v6 ∧ w1.cell? p7 = some v7 ∧ w1.cell? p8 = some v8 := by
  have k : ∀ {p : Addr} {v : Value}, W.cell? p = some v → some p.block ≠ r → w1.cell? p = some v := fun {p v} hc hn => (World.cell?_of_block (hb.block p.block (World.block_lt_of_cell? W _ hc) hn)).trans hc
  obtain ⟨h0, h1, h2, h3, h4, h5, h6, h7, h8⟩ := h
  exact ⟨k h0 n0, k h1 n1, k h2 n2, k h3 n3, k h4 n4, k h5 n5, k h6 n6, k h7 n7, k h8 n8⟩

set_option maxRecDepth 100000 in
set_option maxHeartbeats 4000000 in
theorem pair_any {F : RdF} (hF : Bd F) {R FB : Nat} {E : Nat → Nat} {k0 : Nat} (hOk : TermOk F R FB E k0) (l : List UInt8) (k : Nat) (w : World) (hk0 : k0 ≤ k) (hP : Pot k 998) (hl : Small l) (hr : Rdr R FB E l k w) :
    Calls Tryz.prog 57 #[.pointer (some ⟨R, 0, none⟩)] w (FormRet (rdPair F) R FB E w.heap.size l k w) := by
  obtain ⟨w0, hw0, hs0, hb0, r0⟩ := box_new w zeroC 29
  have hr0 := hr.below hb0
  have HU := Lib.hid hr.under
  have HB0 := Lib.hid hb0
  have R0 := Lib.hid r0
  have HS0 := Lib.hid hs0
  have HT := Lib.hid (hOk k l w0 hk0 (by unfold Pot at *; omega) hl hr0)
  have HOK := Lib.hid hOk
  clear hr hr0 hb0 r0 hs0 hOk
  go_enter Tryz.func57, Tryz.ntmps57
  go_wp2_with fail
  refine HT.out.mono ?_
  rintro e w1 ⟨hg1, x, k1, l1, v1, rfl, hF1, ⟨tp1, tc1, rp1, rc1, p1, c1, rfl, hO1⟩, hr1⟩
  obtain ⟨b1, b2, b3, b4⟩ := hF _ _ _ _ _ hF1
  have hl1 : Small l1 := by unfold Small at *; omega
  have hP1 : Pot k1 999 := by unfold Pot at *; omega
  obtain ⟨w2, hw2, hs2, hb2, r2⟩ := box_new w1 (tmC x tp1 tc1 rp1 rc1 p1 c1) 29
  have hr2 := hr1.below hb2
  obtain ⟨c0', c1', c2', cz⟩ := hr2.cells
  have HW := Lib.hid (And.intro hg1 (And.intro hF1 (And.intro hO1 hr2)))
  have HB2 := Lib.hid hb2
  have R2 := Lib.hid r2
  have HS2 := Lib.hid hs2
  have HBD := Lib.hid (And.intro b1 b2)
  clear hg1 hF1 hO1 hr1 hr2 hb2 r2 hs2 b1 b2 b3 b4
  have hx1 : (⟨l1.toArray⟩ : ByteArray).extract 0 (min (1 : Int) (l1.length : Int)).toNat = bx (l1.take 1) := by
    have e : (min (1 : Int) (l1.length : Int)).toNat = min 1 l1.length := by omega
    rw [e, show (⟨l1.toArray⟩ : ByteArray) = bx l1 from rfl, bx_take]
    congr 1
    rcases l1 with _ | ⟨ch, l2⟩
    · rfl
    · simp
  have i0 : (0 : Int) ≤ min 1 (l1.length : Int) := by omega
  have i1 : min 1 (l1.length : Int) ≤ (l1.length : Int) := by omega
  go_wp2_with fail
  go_region
  go_wp2_with fail
  have hrd := HW.out.2.2.2
  refine (skip_any (l1.take 1) (hrd.drew)).mono ?_
  rintro e w3 ⟨rfl, hr3, hg3⟩
  have hgw3 : w2.grownBy w3 (some R) := ⟨hg3.os, hg3.tape, hg3.output, hg3.size, hg3.block⟩
  have hRw := HU.out.1
  have hs0' := HS0.out
  have hz1 := HW.out.1.size
  have hne : ∀ z, z ≠ R → (some z : Option Nat) ≠ some R := fun z hz e => hz (Option.some.inj e)
  have hs2' := HS2.out
  have hB3 := (hgw3.block w1.heap.size (by omega) (hne _ (by omega))).trans R2.out
  have d0 : w3.cell? ⟨w1.heap.size, 0, none⟩ = some (.int .i64 x.kind) := cell_of_blk hB3 0
  have d1 : w3.cell? ⟨w1.heap.size, 1, none⟩ = some (.string x.name) := cell_of_blk hB3 1
  have d2 : w3.cell? ⟨w1.heap.size, 2, none⟩ = some (.string x.other) := cell_of_blk hB3 2
  have d3 : w3.cell? ⟨w1.heap.size, 3, none⟩ = some (.int .i64 x.n) := cell_of_blk hB3 3
  have d4 : w3.cell? ⟨w1.heap.size, 4, none⟩ = some (.int .i64 x.ty.kind) := cell_of_blk hB3 4
  have d5 : w3.cell? ⟨w1.heap.size, 5, none⟩ = some (.slice tp1 x.ty.args.length tc1) := cell_of_blk hB3 5
  have d6 : w3.cell? ⟨w1.heap.size, 6, none⟩ = some (.int .i64 x.res.kind) := cell_of_blk hB3 6
  have d7 : w3.cell? ⟨w1.heap.size, 7, none⟩ = some (.slice rp1 x.res.args.length rc1) := cell_of_blk hB3 7
  have d8 : w3.cell? ⟨w1.heap.size, 8, none⟩ = some (.slice p1 x.args.length c1) := cell_of_blk hB3 8
  have HC := Lib.hid (HOK.out k1 (cut (l1.take 1) l1) w3.drew (by have := HBD.out.1; omega) (by unfold Pot at *; omega) (small_cut hl1) hr3.drew)
  have HG3 := Lib.hid hgw3
  have hnb : (some w1.heap.size : Option Nat) ≠ some R := hne _ (by omega)
  clear hr3 hg3 hgw3 hRw hs0' hz1 hs2' hB3 hrd hx1 i0 i1 c0' c1' c2' cz
  go_wp2_with fail
  go_region_held3 (fun w' => w'.cell? ⟨w1.heap.size, 0, none⟩ = some (.int .i64 x.kind) ∧ w'.cell? ⟨w1.heap.size, 1, none⟩ = some (.string x.name) ∧ w'.cell? ⟨w1.heap.size, 2, none⟩ = some (.string x.other) ∧ w'.cell? ⟨w1.heap.size, 3, none⟩ = some (.int .i64 x.n) ∧ w'.cell? ⟨w1.heap.size, 4, none⟩ = some (.int .i64 x.ty.kind) ∧ w'.cell? ⟨w1.heap.size, 5, none⟩ = some (.slice tp1 x.ty.args.length tc1) ∧ w'.cell? ⟨w1.heap.size, 6, none⟩ = some (.int .i64 x.res.kind) ∧ w'.cell? ⟨w1.heap.size, 7, none⟩ = some (.slice rp1 x.res.args.length rc1) ∧ w'.cell? ⟨w1.heap.size, 8, none⟩ = some (.slice p1 x.args.length c1))
    (first
      | (go_keep; done)
      | exact ⟨d0, d1, d2, d3, d4, d5, d6, d7, d8⟩
      | exact kbN0 hg4 ⟨d0, d1, d2, d3, d4, d5, d6, d7, d8⟩ hnb hnb hnb hnb hnb hnb hnb hnb hnb
      | exact kbN0 (gb_below (al_below _ _) none) (by assumption) (by simp) (by simp) (by simp) (by simp) (by simp) (by simp) (by simp) (by simp) (by simp)
      | fail)
    (first
      | (go_at_call 24; refine HC.out.mono ?_; rintro e w4 ⟨hg4, y, k4, l4, v4, rfl, hF4, ⟨tp4, tc4, rp4, rc4, p4, c4, rfl, hO4⟩, hr4⟩)
      | fail)
  rename_i hH
  clear hH
  obtain ⟨w5, hw5, hs5, hb5, r5⟩ := box_new w4 #[.int .i64 x.kind, .string x.name, .string x.other, .int .i64 x.n, .int .i64 x.ty.kind, .slice tp1 x.ty.args.length tc1, .int .i64 x.res.kind, .slice rp1 x.res.args.length rc1, .slice p1 x.args.length c1, .int .i64 y.kind, .string y.name, .string y.other, .int .i64 y.n, .int .i64 y.ty.kind, .slice tp4 y.ty.args.length tc4, .int .i64 y.res.kind, .slice rp4 y.res.args.length rc4, .slice p4 y.args.length c4] 29
  have hg4' : w3.grownBy w4 (some R) := ⟨hg4.os, hg4.tape, hg4.output, hg4.size, hg4.block⟩
  have HSK := Lib.hid (skip_any [41] (hr4.below hb5))
  have HG4 := Lib.hid hg4'
  have HF4 := Lib.hid hF4
  have HO4 := Lib.hid hO4
  have HB5 := Lib.hid hb5
  have R5 := Lib.hid r5
  have HS5 := Lib.hid hs5
  clear hg4 hg4' hF4 hO4 hr4 hb5 r5 hs5 d0 d1 d2 d3 d4 d5 d6 d7 d8
  go_wp2_with fail
  refine HSK.out.mono ?_
  rintro e w6 ⟨rfl, hr6, hg6⟩
  have hRw := HU.out.1
  have hs0' := HS0.out
  have hz1 := HW.out.1.size
  have hs2' := HS2.out
  have hz3 := HG3.out.size
  have hz4 := HG4.out.size
  have hs5' := HS5.out
  have hz6 := hg6.size
  have g46 := grownBy_trans (gb_below HB5.out (some R)) hg6
  have g16 := grownBy_trans (grownBy_trans (grownBy_trans (gb_below HB2.out (some R)) HG3.out) HG4.out) g46
  have hx6 := HW.out.2.2.1.stays (stays_grown g16 (fun z hz => by omega))
  have hy6 := HO4.out.stays (stays_grown g46 (fun z hz => by have h1 : w3.drew.heap.size ≤ z := hz.1; have : w3.drew.heap.size = w3.heap.size := rfl; omega))
  have hrow := (hg6.block w4.heap.size (by omega) (hne _ (by omega))).trans R5.out
  have hdo : DO w6 (tmD [x, y]) (.slice (some ⟨w4.heap.size, 0, none⟩) 2 2) (fun z => w.heap.size + 1 ≤ z ∧ z < w6.heap.size) := by
    have e : flatTm [x, y] = x.ds ++ y.ds := by simp [flatTm]
    show DO w6 (.rows 29 9 2 (flatTm [x, y])) _ _
    rw [e]
    refine DO.ofSt (vs := tmL x tp1 tc1 rp1 rc1 p1 c1 ++ tmL y tp4 tc4 rp4 rc4 p4 c4) (F' := fun z => (w.heap.size + 1 ≤ z ∧ z < w1.heap.size) ∨ (w3.heap.size ≤ z ∧ z < w4.heap.size)) (OSt.two hx6 hy6 (fun z hz => ⟨Or.inl ⟨by omega, hz.2⟩, fun h => by have h1 : w3.drew.heap.size ≤ z := h.1; have : w3.drew.heap.size = w3.heap.size := rfl; omega⟩) (fun z hz => Or.inr ⟨hz.1, hz.2⟩)) (by rw [List.length_append, x.ds_len, y.ds_len]) (by unfold maxLen; omega) hrow ⟨by omega, by omega⟩ (fun z hz => by omega)
  have HDO := Lib.hid hdo
  have HG6 := Lib.hid (grownBy_trans (grownBy_trans (gb_below HB0.out (some R)) HW.out.1) g16)
  have HR6 := Lib.hid hr6
  have ho6 := (g16.block w.heap.size (by omega) (hne _ (by omega))).trans ((HW.out.1.block w.heap.size (by omega) (hne _ (by omega))).trans R0.out)
  have r0 := cell_of_blk ho6 0
  have r1 := cell_of_blk ho6 1
  have r2 := cell_of_blk ho6 2
  have r3 := cell_of_blk ho6 3
  have r4 := cell_of_blk ho6 4
  have r5 := cell_of_blk ho6 5
  have r6 := cell_of_blk ho6 6
  have r7 := cell_of_blk ho6 7
  have r8 := cell_of_blk ho6 8
  have rz := unfrozen_of_blk ho6
  simp only [List.getElem?_toArray, List.getElem?_cons_zero, List.getElem?_cons_succ] at r0 r1 r2 r3 r4 r5 r6 r7 r8
  clear hRw hs0' hz1 hs2' hz3 hz4 hs5' hz6 g46 g16 hx6 hy6 hrow hdo hr6 hg6 ho6 hnb
  by_cases hs : l1.take 1 = [32]
  · have hc : (l1.take 1 == [32]) = true := by rw [hs]; rfl
    have HPM := Lib.hid (show Tm.mk 7 E0 E0 0 Z0 Z0 [x, y] = pairM (l1.take 1) x y by unfold pairM; rw [if_pos hs])
    clear hs
    go_wp2_with fail
    refine bodyPost_ret (v := tmV (Tm.mk 7 E0 E0 0 Z0 Z0 [x, y]) none 0 none 0 (some ⟨w4.heap.size, 0, none⟩) 2) ?_ rfl ?_
    · rw [results_cell1 rfl]
      go_simp
      all_goals (repeat' apply And.intro) <;> rfl
    · exact form_out (t := Tm.mk 7 E0 E0 0 Z0 Z0 [x, y]) HU.out HG6.out ⟨x, k1, l1, y, l4, HW.out.2.1, HF4.out, rfl, HPM.out⟩ (OSt9 (os_nil _ (fun _ => False)) (os_nil _ (fun _ => False)) HDO.out (fun z hz => hz.elim) (fun z hz => hz.elim) (fun z hz => hz)) HR6.out
  · have hc : (l1.take 1 == [32]) = false := by simpa using hs
    have HPM := Lib.hid (show Tm.mk 4 (bx (l1.take 1)) E0 0 Z0 Z0 [x, y] = pairM (l1.take 1) x y by unfold pairM; rw [if_neg hs])
    clear hs
    go_wp2_with fail
    refine bodyPost_ret (v := tmV (Tm.mk 4 (bx (l1.take 1)) E0 0 Z0 Z0 [x, y]) none 0 none 0 (some ⟨w4.heap.size, 0, none⟩) 2) ?_ rfl ?_
    · rw [results_cell1 rfl]
      go_simp
      all_goals (repeat' apply And.intro) <;> rfl
    · exact form_out (t := Tm.mk 4 (bx (l1.take 1)) E0 0 Z0 Z0 [x, y]) HU.out HG6.out ⟨x, k1, l1, y, l4, HW.out.2.1, HF4.out, rfl, HPM.out⟩ (OSt9 (os_nil _ (fun _ => False)) (os_nil _ (fun _ => False)) HDO.out (fun z hz => hz.elim) (fun z hz => hz.elim) (fun z hz => hz)) HR6.out
end Go.Proofs.YtjobmgbchpoheaaGreatDoor
namespace Go.Proofs.YtjobmgbchpoheaaGreatDoor
open Go Go.RowKit

theorem rdForm_skip {F : RdF} {q : List UInt8} {R : RdF → RdF} {fs : List (List UInt8 × (RdF → RdF))} {k : Nat} {l : List UInt8} {t : Tm} {k' : Nat} {l' : List UInt8} (hq : q.isPrefixOf l = false) (h : rdForm F ((q, R) :: fs) k l t k' l') : rdForm F fs k l t k' l' := by
  unfold rdForm at h
  rwa [if_neg (by rw [hq]; decide)] at h
theorem rdForm_take {F : RdF} {q : List UInt8} {R : RdF → RdF} {fs : List (List UInt8 × (RdF → RdF))} {k : Nat} {l : List UInt8} {t : Tm} {k' : Nat} {l' : List UInt8} (hq : q.isPrefixOf l = true) (h : rdForm F ((q, R) :: fs) k l t k' l') : R F k (l.drop q.length) t k' l' := by
  unfold rdForm at h
  rwa [if_pos hq] at h
def tailT : List (List UInt8) → List Tm → List UInt8
  | q :: qs, x :: xs => x.text ++ (q ++ tailT qs xs)
  | _, _ => []
def Reads (F : RdF) (k0 : Nat) : Prop := ∀ (x : Tm) (k : Nat) (r : List UInt8) (t' : Tm) (k' : Nat) (l' : List UInt8), x.IsT → k + x.nodes ≤ 80 → k0 ≤ k → Stop r → F k (x.text ++ r) t' k' l' → t' = x ∧ k' = k + x.nodes ∧ l' = r
theorem args_text {F : RdF} {k0 : Nat} (st : Reads F k0) : ∀ (ts : List Tm) (qs : List (List UInt8)) (k : Nat) (r : List UInt8) (ts' : List Tm) (k' : Nat) (l' : List UInt8), qs.length = ts.length → (∀ x ∈ ts, x.IsT) → (∀ q ∈ qs, ∃ c, q = [c] ∧ isW c = false) →
    k + nodesM ts ≤ 80 → k0 ≤ k → rdArgs F qs k (tailT qs ts ++ r) ts' k' l' → ts' = ts ∧ k' = k + nodesM ts ∧ l' = r
  | [], [], k, r, ts', k', l', _, _, _, _, _, h => by
    obtain ⟨rfl, rfl, rfl⟩ := h
    exact ⟨rfl, by simp [nodesM], rfl⟩
  | x :: xs, q :: qs, k, r, ts', k', l', hl, hi, hq, hk, h0, h => by
    obtain ⟨t, k1, l1, ts1, h1, h2, rfl⟩ := h
    obtain ⟨c, rfl, hc⟩ := hq q (by simp)
    simp only [nodesM] at hk
    rw [tailT, List.append_assoc, List.append_assoc] at h1
    obtain ⟨rfl, rfl, rfl⟩ := st x k _ _ _ _ (hi x (by simp)) (by omega) h0 (stop_cons hc) h1
    change rdArgs F qs _ (cut [c] ([c] ++ (tailT qs xs ++ r))) _ _ _ at h2
    rw [cut_app] at h2
    obtain ⟨rfl, rfl, rfl⟩ := args_text st xs qs _ r _ _ _ (by simpa using hl) (fun y hy => hi y (by simp [hy])) (fun p hp => hq p (by simp [hp])) (by omega) (by omega) h2
    exact ⟨rfl, by simp only [nodesM]; omega, rfl⟩
theorem w_text {F : RdF} {k0 : Nat} (st : Reads F k0) (e : Tm) (ts : List Tm) (k : Nat) (r : List UInt8) (t' : Tm) (k' : Nat) (l' : List UInt8) (hl : (sg e).tail.length = ts.length) (hi : ∀ x ∈ ts, x.IsT) (hq : ∀ q ∈ (sg e).tail, ∃ c, q = [c] ∧ isW c = false)
    (hk : k + nodesM ts ≤ 80) (h0 : k0 ≤ k) (h : rdW F e k (tailT (sg e).tail ts ++ r) t' k' l') : t' = withM e ts ∧ k' = k + nodesM ts ∧ l' = r := by
  obtain ⟨ts', h1, rfl⟩ := h
  obtain ⟨rfl, rfl, rfl⟩ := args_text st ts _ k r _ _ _ hl hi hq hk h0 h1
  exact ⟨rfl, rfl, rfl⟩
theorem wd_app {a r : List UInt8} (ha : ∀ c ∈ a, isW c = true) (hr : Stop r) : wd (a ++ r) = a ∧ wrest (a ++ r) = r := by
  unfold wd wrest
  rw [List.takeWhile_append_of_pos ha, List.dropWhile_append_of_pos ha]
  cases r with
  | nil => simp
  | cons c r => simp [hr c rfl]
theorem ty_text {q r : List UInt8} {ty ty' : Ty} {l' : List UInt8} (hv : ty.valid = true) (h : rdTy q (ty.text ++ (q ++ r)) ty' l') : ty' = ty ∧ l' = r := by
  have hp := valid_text (s := ty.text ++ (q ++ r)) (r := q ++ r) (i := 0) hv rfl
  rw [Nat.zero_add] at hp
  rcases h with ⟨j, h1, rfl⟩ | ⟨h1, _⟩
  · rw [hp] at h1
    simp only [Option.some.injEq, Prod.mk.injEq] at h1
    obtain ⟨rfl, rfl⟩ := h1
    rw [List.drop_left, cut_app]
    exact ⟨rfl, rfl⟩
  · rw [hp] at h1; cases h1
theorem nm_word {a : ByteArray} (h : Nm a) : wordOf a.data.toList = .mk 1 a E0 0 Z0 Z0 [] := by
  obtain ⟨c, l, hl, h1, h2⟩ := nm_head h
  unfold wordOf
  rw [if_neg]
  intro ho
  obtain ⟨q0, _, q2⟩ := okNum_yes ho
  have hd := (itoa_digs q0).1 c (by rw [q2, hl]; simp)
  obtain ⟨d1, d2⟩ := hd
  omega
theorem num_word {n : Int} (h0 : 0 ≤ n) (h1 : n ≤ 10006) : wordOf (Lib.itoa n) = .mk 2 E0 E0 n Z0 Z0 [] := by
  unfold wordOf
  rw [if_pos (okNum_mk rfl h0 (by omega)), rd_itoa]
theorem head_word {F : RdF} {c : UInt8} {x : List UInt8} {k : Nat} {t : Tm} {k' : Nat} {l' : List UInt8} (h1 : c.toNat ≠ 35) (h2 : c.toNat ≠ 60) (h3 : c.toNat ≠ 126) (h4 : c.toNat ≠ 40) (h : rdForm F forms k (c :: x) t k' l') : rdWord k (c :: x) t k' l' := by
  have no : ∀ (d : UInt8) (q : List UInt8), c.toNat ≠ d.toNat → (d :: q).isPrefixOf (c :: x) = false := fun d q hd => by
    simp only [List.isPrefixOf, Bool.and_eq_false_imp, beq_iff_eq]
    exact fun e => absurd (congrArg UInt8.toNat e).symm hd
  unfold forms at h
  have h := rdForm_skip (no 35 _ h1) h
  have h := rdForm_skip (no 35 _ h1) h
  have h := rdForm_skip (no 60 _ h2) h
  have h := rdForm_skip (no 126 _ h3) h
  have h := rdForm_skip (no 40 _ h4) h
  have h := rdForm_skip (no 40 _ h4) h
  have h := rdForm_skip (no 40 _ h4) h
  have h := rdForm_skip (no 40 _ h4) h
  have h := rdForm_skip (no 40 _ h4) h
  have h := rdForm_skip (no 40 _ h4) h
  have h := rdForm_skip (no 40 _ h4) h
  have h := rdForm_skip (no 40 _ h4) h
  exact h
theorem paren_pair {F : RdF} {x : Tm} {L r : List UInt8} {k : Nat} {t : Tm} {k' : Nat} {l' : List UInt8} (hx : x.IsT) (hL : L = x.text ++ r) (hr : Stop r) (h : rdForm F forms k (40 :: L) t k' l') : rdPair F k L t k' l' := by
  obtain ⟨n1, n2, n3, n4, n5, n6, n7⟩ := kw_no (s := L) (i := 0) (shape hx) hL hr
  have up : ∀ (q : List UInt8), pre q L 0 = false → (40 :: q).isPrefixOf (40 :: L) = false := fun q hq => by
    unfold pre at hq
    simpa [List.isPrefixOf] using hq
  unfold forms at h
  have h := rdForm_skip (by rfl) h
  have h := rdForm_skip (by rfl) h
  have h := rdForm_skip (by rfl) h
  have h := rdForm_skip (by rfl) h
  have h := rdForm_skip (up _ n7) h
  have h := rdForm_skip (up _ n4) h
  have h := rdForm_skip (up _ n5) h
  have h := rdForm_skip (up _ n6) h
  have h := rdForm_skip (up _ n2) h
  have h := rdForm_skip (up _ n3) h
  have h := rdForm_skip (up _ n1) h
  exact rdForm_take (by rfl) h
theorem pair_text {F : RdF} {k0 : Nat} (st : Reads F k0) (x y : Tm) (c : UInt8) (k : Nat) (r : List UInt8) (t' : Tm) (k' : Nat) (l' : List UInt8) (hx : x.IsT) (hy : y.IsT) (hc : isW c = false) (hk : k + (x.nodes + y.nodes) ≤ 80) (h0 : k0 ≤ k)
    (h : rdPair F k (x.text ++ c :: (y.text ++ 41 :: r)) t' k' l') : t' = pairM [c] x y ∧ k' = k + (x.nodes + y.nodes) ∧ l' = r := by
  obtain ⟨x', k1, l1, y', l3, h1, h2, rfl, rfl⟩ := h
  obtain ⟨rfl, rfl, rfl⟩ := st x k _ _ _ _ hx (by omega) h0 (stop_cons hc) h1
  rw [show (c :: (y.text ++ 41 :: r)).take 1 = [c] from rfl, show cut [c] (c :: (y.text ++ 41 :: r)) = y.text ++ 41 :: r from cut_app [c] _] at h2
  obtain ⟨rfl, rfl, rfl⟩ := st y _ _ _ _ _ hy (by omega) (by omega) (stop_cons (by decide)) h2
  exact ⟨rfl, by omega, cut_app [41] r⟩
theorem nodesM1 (x : Tm) : nodesM [x] = x.nodes := by simp [nodesM]
theorem nodesM2 (x y : Tm) : nodesM [x, y] = x.nodes + y.nodes := by simp [nodesM]
theorem nodesM3 (x y z : Tm) : nodesM [x, y, z] = x.nodes + (y.nodes + z.nodes) := by simp [nodesM]
set_option maxRecDepth 10000 in
theorem rd_text : ∀ (D : Nat) (t : Tm) (k : Nat) (r : List UInt8) (t' : Tm) (k' : Nat) (l' : List UInt8), t.IsT → k + t.nodes ≤ 80 → 81 ≤ D + k → Stop r → RT D k (t.text ++ r) t' k' l' → t' = t ∧ k' = k + t.nodes ∧ l' = r
  | 0, t, k, r, t', k', l', _, hk, hD, _, _ => by omega
  | D + 1, t, k, r, t', k', l', hT, hk, hD, hr, h => by
    have hne := t.nodes_eq
    unfold RT at h
    rw [if_neg (by omega)] at h
    have st : Reads (RT D) (k + 1) := fun x k r t' k' l' hx h1 h2 hr h => rd_text D x k r t' k' l' hx h1 (by omega) hr h
    have hk1 : k + 1 + nodesM t.args ≤ 80 := by omega
    have sh := shape hT
    cases sh with
    | var a hn =>
      obtain ⟨c, l, hl, h1, h2⟩ := nm_head hn
      rw [t_var] at h
      have h3 := h
      rw [hl, List.cons_append] at h3
      have h4 := head_word (by omega) (by omega) (by omega) (by omega) h3
      rw [← List.cons_append, ← hl] at h4
      obtain ⟨rfl, rfl, rfl⟩ := h4
      obtain ⟨e1, e2⟩ := wd_app (nm_all hn) hr
      rw [e1, e2]
      exact ⟨nm_word hn, by rw [hne]; simp [Tm.args, nodesM], rfl⟩
    | int n h0 h1 =>
      obtain ⟨q1, q2⟩ := itoa_digs h0
      obtain ⟨c, l, hl⟩ := List.exists_cons_of_ne_nil q2
      obtain ⟨d1, d2⟩ := q1 c (by rw [hl]; simp)
      rw [t_int] at h
      have h3 := h
      rw [hl, List.cons_append] at h3
      have h4 := head_word (by omega) (by omega) (by omega) (by omega) h3
      rw [← List.cons_append, ← hl] at h4
      obtain ⟨rfl, rfl, rfl⟩ := h4
      obtain ⟨e1, e2⟩ := wd_app (fun c hc => dig_w (q1 c hc)) hr
      rw [e1, e2]
      exact ⟨num_word h0 h1, by rw [hne]; simp [Tm.args, nodesM], rfl⟩
    | bool n hb =>
      rw [t_bool] at h
      rcases hb with rfl | rfl
      · have h := rdForm_take (by rfl) h
        obtain ⟨ts, ⟨rfl, rfl, rfl⟩, rfl⟩ := h
        exact ⟨rfl, by rw [hne]; simp [Tm.args, nodesM], rfl⟩
      · have h := rdForm_skip (by rfl) h
        have h := rdForm_take (by rfl) h
        obtain ⟨ts, ⟨rfl, rfl, rfl⟩, rfl⟩ := h
        exact ⟨rfl, by rw [hne]; simp [Tm.args, nodesM], rfl⟩
    | splice x hx =>
      rw [t_splice] at h
      have h := rdForm_skip (by rfl) h
      have h := rdForm_skip (by rfl) h
      have h := rdForm_skip (by rfl) h
      have h := rdForm_take (by rfl) h
      obtain ⟨ts, ⟨t1, k1, l1, ts1, h1, ⟨rfl, rfl, rfl⟩, rfl⟩, rfl⟩ := h
      rw [show List.drop [(126 : UInt8)].length (126 :: x.text ++ r) = x.text ++ r from rfl] at h1
      have hk2 := hk1
      simp only [Tm.args, nodesM1] at hk2
      obtain ⟨rfl, rfl, rfl⟩ := st x (k + 1) r _ _ _ hx hk2 (Nat.le_refl _) hr h1
      exact ⟨rfl, by rw [hne]; simp only [Tm.args, nodesM1]; omega, by simp []⟩
    | quote x hx =>
      rw [t_quote] at h
      have h := rdForm_skip (by rfl) h
      have h := rdForm_skip (by rfl) h
      have h := rdForm_take (by rfl) h
      rw [show List.drop [(60 : UInt8)].length (60 :: (x.text ++ [62]) ++ r) = tailT (sg eQuote).tail [x] ++ r by simp [tailT, sg, sgN, Tm.kind]] at h
      obtain ⟨rfl, rfl, rfl⟩ := w_text st eQuote [x] (k + 1) r _ _ _ rfl (by simpa using hx) (by intro q hq; simp [sg, sgN, Tm.kind] at hq; exact ⟨62, hq, by decide⟩) hk1 (Nat.le_refl _) h
      exact ⟨rfl, by rw [hne]; simp only [Tm.args, nodesM1]; omega, rfl⟩
    | op1 a ha x hx =>
      have e : a = ⟨#[33]⟩ := by
        rw [ByteArray.toList_eq] at ha
        apply ByteArray.ext
        exact Array.toList_inj.1 ha
      subst e
      rw [t_op1] at h
      have h := rdForm_skip (by rfl) h
      have h := rdForm_skip (by rfl) h
      have h := rdForm_skip (by rfl) h
      have h := rdForm_skip (by rfl) h
      have h := rdForm_take (by rfl) h
      rw [show List.drop [(40 : UInt8), 33].length (40 :: 33 :: (x.text ++ [41]) ++ r) = tailT (sg eNot).tail [x] ++ r by simp [tailT, sg, sgN, Tm.kind, Tm.name, opAr]] at h
      obtain ⟨rfl, rfl, rfl⟩ := w_text st eNot [x] (k + 1) r _ _ _ (by simp [sg, sgN, Tm.kind, Tm.name, opAr]) (by simpa using hx) (by intro q hq; simp [sg, sgN, Tm.kind, Tm.name, opAr] at hq; exact ⟨41, hq, by decide⟩) hk1 (Nat.le_refl _) h
      exact ⟨rfl, by rw [hne]; simp only [Tm.args, nodesM1]; omega, rfl⟩
    | run x hx =>
      rw [t_run] at h
      have h := rdForm_skip (by rfl) h
      have h := rdForm_skip (by rfl) h
      have h := rdForm_skip (by rfl) h
      have h := rdForm_skip (by rfl) h
      have h := rdForm_skip (by rfl) h
      have h := rdForm_skip (by rfl) h
      have h := rdForm_take (by rfl) h
      rw [show List.drop [(40 : UInt8), 114, 117, 110, 32].length (40 :: 114 :: 117 :: 110 :: 32 :: (x.text ++ [41]) ++ r) = tailT (sg eRun).tail [x] ++ r by simp [tailT, sg, sgN, Tm.kind]] at h
      obtain ⟨rfl, rfl, rfl⟩ := w_text st eRun [x] (k + 1) r _ _ _ rfl (by simpa using hx) (by intro q hq; simp [sg, sgN, Tm.kind] at hq; exact ⟨41, hq, by decide⟩) hk1 (Nat.le_refl _) h
      exact ⟨rfl, by rw [hne]; simp only [Tm.args, nodesM1]; omega, rfl⟩
    | lift x hx =>
      rw [t_lift] at h
      have h := rdForm_skip (by rfl) h
      have h := rdForm_skip (by rfl) h
      have h := rdForm_skip (by rfl) h
      have h := rdForm_skip (by rfl) h
      have h := rdForm_skip (by rfl) h
      have h := rdForm_skip (by rfl) h
      have h := rdForm_skip (by rfl) h
      have h := rdForm_take (by rfl) h
      rw [show List.drop [(40 : UInt8), 108, 105, 102, 116, 32].length (40 :: 108 :: 105 :: 102 :: 116 :: 32 :: (x.text ++ [41]) ++ r) = tailT (sg eLift).tail [x] ++ r by simp [tailT, sg, sgN, Tm.kind]] at h
      obtain ⟨rfl, rfl, rfl⟩ := w_text st eLift [x] (k + 1) r _ _ _ rfl (by simpa using hx) (by intro q hq; simp [sg, sgN, Tm.kind] at hq; exact ⟨41, hq, by decide⟩) hk1 (Nat.le_refl _) h
      exact ⟨rfl, by rw [hne]; simp only [Tm.args, nodesM1]; omega, rfl⟩
    | cond x y z hx hy hz =>
      rw [t_cond] at h
      have h := rdForm_skip (by rfl) h
      have h := rdForm_skip (by rfl) h
      have h := rdForm_skip (by rfl) h
      have h := rdForm_skip (by rfl) h
      have h := rdForm_skip (by rfl) h
      have h := rdForm_take (by rfl) h
      rw [show List.drop [(40 : UInt8), 105, 102, 32].length (40 :: 105 :: 102 :: 32 :: (x.text ++ 32 :: (y.text ++ 32 :: (z.text ++ [41]))) ++ r) = tailT (sg eIf).tail [x, y, z] ++ r by simp [tailT, sg, sgN, Tm.kind]] at h
      obtain ⟨rfl, rfl, rfl⟩ := w_text st eIf [x, y, z] (k + 1) r _ _ _ rfl (by simpa using ⟨hx, hy, hz⟩) (by
        intro q hq
        simp [sg, sgN, Tm.kind] at hq
        rcases hq with rfl | rfl
        · exact ⟨32, rfl, by decide⟩
        · exact ⟨41, rfl, by decide⟩) hk1 (Nat.le_refl _) h
      exact ⟨rfl, by rw [hne]; simp only [Tm.args, nodesM3]; omega, rfl⟩
    | app x y hx hy =>
      rw [t_app] at h
      have h := paren_pair (L := x.text ++ 32 :: (y.text ++ 41 :: r)) hx rfl (stop_cons (by decide)) (by simpa using h)
      simp only [Tm.args, nodesM2] at hk1 hne
      obtain ⟨rfl, rfl, rfl⟩ := pair_text st x y 32 (k + 1) r _ _ _ hx hy (by decide) hk1 (Nat.le_refl _) h
      exact ⟨rfl, by rw [hne]; omega, rfl⟩
    | op2 a c ha hc x y hx hy =>
      obtain ⟨hc1, hc2⟩ := op_stop hc
      have had : a.data.toList = [c] := by rw [← ByteArray.toList_eq]; exact ha
      have e : a = ⟨#[c]⟩ := by
        apply ByteArray.ext
        exact Array.toList_inj.1 had
      rw [t_op2, had] at h
      have h := paren_pair (L := x.text ++ c :: (y.text ++ 41 :: r)) hx rfl (stop_cons hc1) (by simpa using h)
      simp only [Tm.args, nodesM2] at hk1 hne
      obtain ⟨rfl, rfl, rfl⟩ := pair_text st x y c (k + 1) r _ _ _ hx hy hc1 hk1 (Nat.le_refl _) h
      exact ⟨by unfold pairM; rw [if_neg (by simpa using hc2), e], by rw [hne]; omega, rfl⟩
    | bind a hn x y hx hy =>
      rw [t_bind] at h
      have h := rdForm_skip (by rfl) h
      have h := rdForm_skip (by rfl) h
      have h := rdForm_skip (by rfl) h
      have h := rdForm_skip (by rfl) h
      have h := rdForm_skip (by rfl) h
      have h := rdForm_skip (by rfl) h
      have h := rdForm_skip (by rfl) h
      have h := rdForm_skip (by rfl) h
      have h := rdForm_take (by rfl) h
      rw [show List.drop [(40 : UInt8), 108, 101, 116, 32].length (40 :: 108 :: 101 :: 116 :: 32 :: (a.data.toList ++ 61 :: (x.text ++ 32 :: (y.text ++ [41]))) ++ r) = a.data.toList ++ 61 :: (x.text ++ 32 :: (y.text ++ 41 :: r)) by simp] at h
      obtain ⟨e1, e2⟩ := wd_app (r := 61 :: (x.text ++ 32 :: (y.text ++ 41 :: r))) (nm_all hn) (stop_cons (by decide))
      unfold rdLet at h
      rw [e1, e2, show cut [61] (61 :: (x.text ++ 32 :: (y.text ++ 41 :: r))) = tailT (sg (eLet a.data.toList)).tail [x, y] ++ r by rw [show (61 :: (x.text ++ 32 :: (y.text ++ 41 :: r))) = [61] ++ (x.text ++ 32 :: (y.text ++ 41 :: r)) from rfl, cut_app]; simp [tailT, sg, sgN, Tm.kind]] at h
      obtain ⟨rfl, rfl, rfl⟩ := w_text st (eLet a.data.toList) [x, y] (k + 1) r _ _ _ rfl (by simpa using ⟨hx, hy⟩) (by
        intro q hq
        simp [sg, sgN, Tm.kind] at hq
        rcases hq with rfl | rfl
        · exact ⟨32, rfl, by decide⟩
        · exact ⟨41, rfl, by decide⟩) hk1 (Nat.le_refl _) h
      exact ⟨rfl, by rw [hne]; simp only [Tm.args, nodesM2]; omega, rfl⟩
    | lam a hn ty hv x hx =>
      rw [t_lam] at h
      have h := rdForm_skip (by rfl) h
      have h := rdForm_skip (by rfl) h
      have h := rdForm_skip (by rfl) h
      have h := rdForm_skip (by rfl) h
      have h := rdForm_skip (by rfl) h
      have h := rdForm_skip (by rfl) h
      have h := rdForm_skip (by rfl) h
      have h := rdForm_skip (by rfl) h
      have h := rdForm_skip (by rfl) h
      have h := rdForm_skip (by rfl) h
      have h := rdForm_take (by rfl) h
      rw [show List.drop [(40 : UInt8), 92].length (40 :: 92 :: (a.data.toList ++ 58 :: (ty.text ++ 46 :: (x.text ++ [41]))) ++ r) = a.data.toList ++ 58 :: (ty.text ++ 46 :: (x.text ++ 41 :: r)) by simp] at h
      obtain ⟨e1, e2⟩ := wd_app (r := 58 :: (ty.text ++ 46 :: (x.text ++ 41 :: r))) (nm_all hn) (stop_cons (by decide))
      unfold rdLam at h
      obtain ⟨ty', l1, h1, h2⟩ := h
      rw [e1] at h2
      rw [e2, show cut [58] (58 :: (ty.text ++ 46 :: (x.text ++ 41 :: r))) = ty.text ++ ([46] ++ (x.text ++ 41 :: r)) from cut_app [58] _] at h1
      obtain ⟨rfl, rfl⟩ := ty_text hv h1
      rw [show x.text ++ 41 :: r = tailT (sg (eLam a.data.toList ty')).tail [x] ++ r by simp [tailT, sg, sgN, Tm.kind]] at h2
      obtain ⟨rfl, rfl, rfl⟩ := w_text st (eLam a.data.toList ty') [x] (k + 1) r _ _ _ rfl (by simpa using hx) (by intro q hq; simp [sg, sgN, Tm.kind] at hq; exact ⟨41, hq, by decide⟩) hk1 (Nat.le_refl _) h2
      exact ⟨rfl, by rw [hne]; simp only [Tm.args, nodesM1]; omega, rfl⟩
    | fix a b ha hb hab ty res hv hv2 x hx =>
      rw [t_fix] at h
      have h := rdForm_skip (by rfl) h
      have h := rdForm_skip (by rfl) h
      have h := rdForm_skip (by rfl) h
      have h := rdForm_skip (by rfl) h
      have h := rdForm_skip (by rfl) h
      have h := rdForm_skip (by rfl) h
      have h := rdForm_skip (by rfl) h
      have h := rdForm_skip (by rfl) h
      have h := rdForm_skip (by rfl) h
      have h := rdForm_take (by rfl) h
      rw [show List.drop [(40 : UInt8), 114, 101, 99, 32].length (40 :: 114 :: 101 :: 99 :: 32 :: (a.data.toList ++ 32 :: (b.data.toList ++ 58 :: (ty.text ++ 62 :: (res.text ++ 46 :: (x.text ++ [41]))))) ++ r) = a.data.toList ++ 32 :: (b.data.toList ++ 58 :: (ty.text ++ 62 :: (res.text ++ 46 :: (x.text ++ 41 :: r)))) by simp] at h
      obtain ⟨e1, e2⟩ := wd_app (r := 32 :: (b.data.toList ++ 58 :: (ty.text ++ 62 :: (res.text ++ 46 :: (x.text ++ 41 :: r))))) (nm_all ha) (stop_cons (by decide))
      unfold rdRec at h
      obtain ⟨m, ty', l1, res', l2, rfl, h1, h2, h3⟩ := h
      obtain ⟨e3, e4⟩ := wd_app (r := 58 :: (ty.text ++ 62 :: (res.text ++ 46 :: (x.text ++ 41 :: r)))) (nm_all hb) (stop_cons (by decide))
      have e5 : cut [32] (wrest (a.data.toList ++ 32 :: (b.data.toList ++ 58 :: (ty.text ++ 62 :: (res.text ++ 46 :: (x.text ++ 41 :: r)))))) = b.data.toList ++ 58 :: (ty.text ++ 62 :: (res.text ++ 46 :: (x.text ++ 41 :: r))) := by rw [e2]; exact cut_app [32] _
      rw [e1, e5, e3] at h3
      rw [e5, e4, show cut [58] (58 :: (ty.text ++ 62 :: (res.text ++ 46 :: (x.text ++ 41 :: r)))) = ty.text ++ ([62] ++ (res.text ++ 46 :: (x.text ++ 41 :: r))) from cut_app [58] _] at h1
      obtain ⟨rfl, rfl⟩ := ty_text hv h1
      rw [show res.text ++ 46 :: (x.text ++ 41 :: r) = res.text ++ ([46] ++ (x.text ++ 41 :: r)) from rfl] at h2
      obtain ⟨rfl, rfl⟩ := ty_text hv2 h2
      rw [show x.text ++ 41 :: r = tailT (sg (eRec a.data.toList b.data.toList ty' res')).tail [x] ++ r by simp [tailT, sg, sgN, Tm.kind]] at h3
      obtain ⟨rfl, rfl, rfl⟩ := w_text st (eRec a.data.toList b.data.toList ty' res') [x] (k + 1) r _ _ _ rfl (by simpa using hx) (by intro q hq; simp [sg, sgN, Tm.kind] at hq; exact ⟨41, hq, by decide⟩) hk1 (Nat.le_refl _) h3
      exact ⟨rfl, by rw [hne]; simp only [Tm.args, nodesM1]; omega, rfl⟩
end Go.Proofs.YtjobmgbchpoheaaGreatDoor
