/-
  The contract of the program's IsPlainType.
-/
import Derived.Test.YtjobmgbchpoheaaValidT
namespace Go.Proofs.Ytjobmgbchpoheaa
open Go Go.RowKit Go.Shelf
attribute [local go_sem] Oper.semAt_some

set_option maxRecDepth 100000 in
set_option maxHeartbeats 2000000 in
theorem plainI_any {C : Nat → Prop} {t : Ty} {v : Value} {w : World} (h : TT w C t v) (hn : nodesS t.args ≤ 2097152) :
    Calls Try.prog 17 #[v] w (BoolRet (fun r => r = t.plain) w) := by
  have HT := Lib.hid (fun w' (hb : Below w.heap.size w w') => h.keep hb)
  obtain ⟨s, rfl, hS⟩ := h
  obtain ⟨p, c, rfl⟩ := hS.form
  have HS := Lib.hid (hS.mono (C' := (· < w.heap.size)) (fun b _ h => h))
  clear hS
  have hnt : t.nodes ≤ 2097153 := by have := t.nodes_eq; omega
  have hb0 := ((Below.refl w.heap.size w).alloc (Nat.le_refl _) (Obj.cells #[.int .i64 t.kind, .slice p t.args.length c] 26)).alloc (by simp) (Obj.cells #[.bool false] 4)
  have hk0 : ((w.alloc (.cells #[.int .i64 t.kind, .slice p t.args.length c] 26)).alloc (.cells #[.bool false] 4)).heap[w.heap.size]? = some (.cells #[.int .i64 t.kind, .slice p t.args.length c] 26 (0, 0)) := by
    rw [Below.heap_alloc _ _ _ (by simp)]; exact blk_new _ _
  have hk1 : ((w.alloc (.cells #[.int .i64 t.kind, .slice p t.args.length c] 26)).alloc (.cells #[.bool false] 4)).heap[w.heap.size + 1]? = some (.cells #[.bool false] 4 (0, 0)) := by
    have := blk_new (w.alloc (.cells #[.int .i64 t.kind, .slice p t.args.length c] 26)) (.cells #[.bool false] 4)
    rwa [World.size_alloc] at this
  have HB0 := Lib.hid hb0
  have HK0 := Lib.hid hk0
  have HK1 := Lib.hid hk1
  clear hb0 hk0 hk1
  refine (callsIn_wide (n := 2)).1 ?_
  refine callsIn_of_wp_marks Try.func17 rfl trivial ?_ rfl
  simp only [Try.ntmps17, List.size_toArray, List.length_cons, List.length_nil, Nat.reduceAdd, Nat.reduceSub, Array.replicate_succ, Array.replicate_zero, List.push_toArray, List.append_toArray, List.nil_append, List.cons_append]
  gi_wp2_with fail
  refine ⟨trivial, ?_⟩
  refine (callsIn_wide.2 (validI_any (HT.out _ HB0.out) hn)).mono ?_
  rintro e w1 ⟨r, hr, rfl, hb1⟩
  have HR := Lib.hid hr
  have hk0 := (hb1.block _ (by simp; omega)).trans HK0.out
  have hk1 := (hb1.block _ (by simp)).trans HK1.out
  have HB1 := Lib.hid (HB0.out.trans (hb1.mono HB0.out.size))
  have hsz1 : w.heap.size + 2 ≤ w1.heap.size := by have := hb1.size; simp at this; omega
  have c0 := cell_of_blk hk0 0
  have c1 := cell_of_blk hk0 1
  have r0 := cell_of_blk hk1 0
  have rz := unfrozen_of_blk hk1 0
  simp only [List.getElem?_toArray, List.getElem?_cons_zero, List.getElem?_cons_succ] at c0 c1 r0
  have HK1' := Lib.hid hk1
  clear hr hb1 hk0 hk1
  cases r with
  | false =>
    have hcc := World.cell?_setCell_same' w1 ⟨w.heap.size + 1, 0, none⟩ (.bool false) (by rw [r0]; rfl)
    gi_wp2_with fail
    refine ⟨.bool false, ?_, _, by rw [Ty.plain, ← HR.out]; rfl, rfl, HB1.out.setCell (p := ⟨w.heap.size + 1, 0, none⟩) (by show w.heap.size ≤ w.heap.size + 1; omega) _⟩
    rw [results_cell1 rfl]
    go_simp
  | true =>
    have HK := Lib.hid (fun (W : World) (hb : Below w1.heap.size w1 W) => tnT_any (t := t) (p := p) (c := c) (C := (· < w.heap.size)) ((HS.out.keep HB1.out).stays (.of_below hb)))
    gi_wp2_with fail
    refine ⟨trivial, ?_⟩
    refine (callsIn_wide.2 (HK.out _ (Below.refl _ _))).mono ?_
    rintro e wl ⟨Bt, Bp, rfl, hI, hbw, hBt, hBp⟩
    have hsz := hbw.size
    have hbl : Below w.heap.size w wl := HB1.out.trans (hbw.mono HB1.out.size)
    have k1 : wl.heap[w.heap.size + 1]? = some (.cells #[.bool false] 4 (0, 0)) := (hbw.block _ (by omega)).trans HK1'.out
    have hbp := (Array.getElem?_eq_some_iff.1 hI.bp).1
    have HSL : TS wl (fun b => b < w.heap.size ∨ b = Bp) t.args (.slice p t.args.length c) := (HS.out.keep hbl).mono (fun z hz _ => Or.inl hz)
    gi_wp2_with fail
    refine range_law (F := Fence.wide) (n := 2) rfl (by omega) (gf := 60) (lb := #[.pointer (some ⟨Bt, 0, none⟩), .pointer (some ⟨Bp, 0, none⟩)]) rfl trivial (enters_of Try.func60 (by kernel_rfl) rfl)
      (nodesT_seq2 hI HSL hnt (Below.refl _ _) (fun b => b = w.heap.size + 1) (fun b h => by omega) (fun b h => by omega) (Or.inr rfl)) (fun _ => rfl) (fun b h => by omega)
      (fun pre W => W.heap[w.heap.size + 1]? = some (.cells #[.bool false] 4 (0, 0)) ∧ NoCode pre ∧ Below w.heap.size w W)
      (fun j pre W => j = .ret ∧ W.cell? ⟨w.heap.size + 1, 0, none⟩ = some (.bool false) ∧ t.plain = false ∧ Below w.heap.size w W)
      (fun pre A B h hb => ⟨(hb.block _ (by omega)).trans h.1, h.2.1, h.2.2.trans (hb.mono (by omega))⟩)
      (fun j pre A B h hb => ⟨h.1, (hb.cell (by show w.heap.size + 1 < _; omega)).trans h.2.1, h.2.2.1, h.2.2.2.trans (hb.mono (by omega))⟩)
      (goodT_keep (fun b h => by omega)) ⟨k1, (fun e he => absurd he (List.not_mem_nil)), hbl⟩
      (fun x a' W => ∃ bx, W.heap[bx]? = some (.cells x.2.1.cells 26 (0, 0)) ∧ a' = { tmps := #[.agg #[.int .i64 t.kind, .slice p t.args.length c], .pointer (some ⟨w.heap.size, 0, none⟩), .pointer (some ⟨w.heap.size + 1, 0, none⟩), .pointer (some ⟨bx, 0, none⟩),
        .agg #[.int .i64 t.kind, .slice p t.args.length c], .bool true, .bool false, .agg #[.int .i64 t.kind, .slice p t.args.length c], iterT Bt Bp, x.2.1, .int .i64 (x.2.2 : Nat), undef, undef], defers := [] })
      (fun x a' W l r o h hl => by
        obtain ⟨bx, h2, h3⟩ := h
        exact ⟨bx, (World.putObj_heap_other (fun e => by rw [e, hl] at h2; cases h2)).trans h2, h3⟩) ?assign ?body ?done ?stop
    case assign =>
      rintro l ⟨x, v, d⟩ W K hG hK
      have hG : TT W _ x v := hG
      obtain ⟨s', rfl, hG'⟩ := hG
      obtain ⟨p', c', rfl⟩ := hG'.form
      have HK := Lib.hid hK
      clear hK
      gi_wp2
      exact HK.out _ _ ((Below.refl _ _).alloc (Nat.le_refl _) _) ⟨W.heap.size, blk_new _ _, by simp⟩
    case body =>
      rintro l pre ⟨x, v, d⟩ a' W ⟨hr, hso, hB⟩ hpre hG ⟨bx, hbx, rfl⟩
      have hpre : pre ++ [(x, d)] <+: walkT t 1 := hpre
      have hbx : W.heap[bx]? = some (.cells v.cells 26 (0, 0)) := hbx
      have hG : TT W _ x v := hG
      obtain ⟨s', rfl, hG'⟩ := hG
      obtain ⟨p', c', rfl⟩ := hG'.form
      simp only [Value.cells] at hbx
      have x0 := cell_of_blk hbx 0
      have x1 := cell_of_blk hbx 1
      simp only [List.getElem?_toArray, List.getElem?_cons_zero, List.getElem?_cons_succ] at x0 x1
      have HG := Lib.hid hG'
      have HR1 := Lib.hid hr
      have HB1 := Lib.hid hB
      have HSO := Lib.hid hso
      have HP := Lib.hid hpre
      clear hso hpre hr hbx hB k1 hG' HSL hbl hbw c0 c1 r0 rz hI
      gi_wp2_with fail
      refine ⟨trivial, rfl, ?_⟩
      refine (CallsIn.inRound l (callsIn_wide.2 (isCode_any (t := x) ⟨_, rfl, HG.out⟩))).mono ?_
      rintro e W2 ⟨b, hb, rfl, hb2⟩
      have l2 := (Array.getElem?_eq_some_iff.1 HR1.out).1
      have HR2 := Lib.hid ((hb2.block _ l2).trans HR1.out)
      have r2 := cell_of_blk HR2.out 0
      have rz := unfrozen_of_blk HR2.out 0
      simp only [List.getElem?_toArray, List.getElem?_cons_zero] at r2
      have hH2 : Holds (fun b => b = w.heap.size + 1) W W2 := .of_below hb2
      have hB2 : Below w.heap.size w W2 := HB1.out.trans (hb2.mono HB1.out.size)
      have HBB := Lib.hid hb
      have HH2 := Lib.hid hH2
      have HB2 := Lib.hid hB2
      clear hb hb2 hH2 hB2 x0 x1 l2
      cases b with
      | true =>
        have hcc := World.cell?_setCell_same' W2 ⟨w.heap.size + 1, 0, none⟩ (.bool false) (by rw [r2]; rfl)
        have HCC := Lib.hid hcc
        clear hcc
        gi_wp2_with fail
        exact ⟨HH2.out.setCell ⟨w.heap.size + 1, 0, none⟩ rfl _, rfl, HCC.out, not_plain_at HP.out HBB.out.symm, HB2.out.setCell (p := ⟨w.heap.size + 1, 0, none⟩) (by show w.heap.size ≤ w.heap.size + 1; omega) _⟩
      | false =>
        gi_wp2_with fail
        exact ⟨HH2.out, HR2.out, HSO.out.next HBB.out.symm, HB2.out⟩
    case done =>
      rintro D W hD ⟨hr, hso, hB⟩ hK
      have r0 := cell_of_blk hr 0
      have rz := unfrozen_of_blk hr 0
      simp only [List.getElem?_toArray, List.getElem?_cons_zero] at r0
      have HV := Lib.hid (plain_of HR.out.symm hso)
      have HB := Lib.hid hB
      have hK' : (W.setCell ⟨w.heap.size + 1, 0, none⟩ (.bool true)).heap[D]? = some (.deferred (some [])) := (Below.heap_setCell _ _ _ _ (by show D ≠ w.heap.size + 1; omega)).trans hK
      clear hso hB hr hK k1 HSL hbl hbw hI
      gi_wp2_with fail
      refine ⟨by simp, .inl ⟨_, _, rfl, run_takeDeferred hK', ?_⟩⟩
      have hc := (World.cell?_of_block (a := ⟨w.heap.size + 1, 0, none⟩) (w' := (W.setCell ⟨w.heap.size + 1, 0, none⟩ (.bool true)).putObj D (.deferred none)) (World.putObj_heap_other (by show w.heap.size + 1 ≠ D; omega))).trans (World.cell?_setCell_same' W ⟨w.heap.size + 1, 0, none⟩ (.bool true) (by rw [r0]; rfl))
      refine ⟨.bool true, ?_, _, HV.out.symm, rfl, (HB.out.setCell (p := ⟨w.heap.size + 1, 0, none⟩) (by show w.heap.size ≤ w.heap.size + 1; omega) _).trans (below_putObj _ _ _ _ (by omega))⟩
      rw [results_cell1 rfl]
      go_simp
    case stop =>
      rintro D c pre W hD hpre ⟨rfl, hr, hv, hB⟩ hK
      have HB := Lib.hid hB
      have HV := Lib.hid hv
      clear hv hB k1 HSL hbl hbw hI
      gi_wp2_with fail
      refine ⟨by simp, .inl ⟨_, _, rfl, run_takeDeferred hK, ?_⟩⟩
      have hc := (World.cell?_of_block (a := ⟨w.heap.size + 1, 0, none⟩) (w' := W.putObj D (.deferred none)) (World.putObj_heap_other (by show w.heap.size + 1 ≠ D; omega))).trans hr
      refine ⟨.bool false, ?_, _, HV.out.symm, rfl, HB.out.trans (below_putObj _ _ _ _ (by omega))⟩
      rw [results_cell1 rfl]
      go_simp
#print axioms plainI_any
end Go.Proofs.Ytjobmgbchpoheaa

