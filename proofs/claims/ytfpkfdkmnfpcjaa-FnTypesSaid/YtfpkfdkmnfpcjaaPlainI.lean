/-
  The contract of the program's IsPlainType.
-/
import Derived.Test.YtfpkfdkmnfpcjaaValidI
namespace Go.Proofs.Ytfpkfdkmnfpcjaa
open Go Go.RowKit Go.Shelf
attribute [local go_sem] Oper.semAt_some

mutual
theorem has_walk (q : Int) : ∀ (t : Ty) (d : Nat), t.has q = true ↔ ∃ e ∈ walkT t d, e.1.kind = q
  | .mk k ts, d => by
    have h := has_walkS q ts (d + 1)
    simp only [Ty.has, Bool.or_eq_true, h, walkT, beq_iff_eq, List.mem_cons]
    constructor
    · rintro (⟨e, he, hk⟩ | hk)
      · exact ⟨e, Or.inr he, hk⟩
      · exact ⟨_, Or.inl rfl, hk⟩
    · rintro ⟨e, rfl | he, hk⟩
      · exact Or.inr hk
      · exact Or.inl ⟨e, he, hk⟩
theorem has_walkS (q : Int) : ∀ (ts : List Ty) (d : Nat), hasS q ts = true ↔ ∃ e ∈ walkS ts d, e.1.kind = q
  | [], d => by simp [hasS, walkS]
  | t :: ts, d => by
    have h1 := has_walkS q ts d
    have h2 := has_walk q t d
    simp only [hasS, walkS, Bool.or_eq_true, List.mem_append, h1, h2]
    constructor
    · rintro (⟨e, he, hk⟩ | ⟨e, he, hk⟩)
      · exact ⟨e, Or.inr he, hk⟩
      · exact ⟨e, Or.inl he, hk⟩
    · rintro ⟨e, he | he, hk⟩
      · exact Or.inr ⟨e, he, hk⟩
      · exact Or.inl ⟨e, he, hk⟩
end
/-- None so far is a type of code. -/
def NoCode (pre : List (Ty × Nat)) : Prop := ∀ e ∈ pre, e.1.code = false
theorem NoCode.next {pre : List (Ty × Nat)} {x : Ty} {d : Nat} (h : NoCode pre) (hx : x.code = false) : NoCode (pre ++ [(x, d)]) := by
  intro e he
  rcases List.mem_append.1 he with he | he
  · exact h e he
  · simp only [List.mem_singleton] at he; subst he; exact hx
theorem plain_of {t : Ty} (hv : t.valid = true) (h : NoCode (walkT t 1)) : t.plain = true := by
  rw [Ty.plain, hv, Bool.true_and, Bool.not_eq_true', Bool.eq_false_iff]
  intro hh
  obtain ⟨e, he, hk⟩ := (has_walk 4 t 1).1 hh
  have h1 := h e he
  have h2 := (okK_kind e.1).1 (((valid_walk t).1 hv).1 e he).1
  unfold Ty.code at h1
  rw [decide_eq_false_iff_not] at h1
  omega
theorem not_plain_at {t x : Ty} {d : Nat} {pre : List (Ty × Nat)} (h : pre ++ [(x, d)] <+: walkT t 1) (hx : x.code = true) : t.plain = false := by
  have hh : t.has 4 = true := (has_walk 4 t 1).2 ⟨(x, d), h.subset (by simp), by unfold Ty.code at hx; rw [decide_eq_true_eq] at hx; exact hx.1⟩
  rw [Ty.plain, hh]
  simp

set_option maxRecDepth 100000 in
set_option maxHeartbeats 2000000 in
theorem plainI_any {C : Nat → Prop} {t : Ty} {v : Value} {w : World} (h : TT w C t v) (hn : nodesS t.args ≤ 1048576) :
    Calls Try.prog 23 #[v] w (BoolRet (fun r => r = t.plain) w) := by
  have HT := Lib.hid (fun w' (hb : Below w.heap.size w w') => h.keep hb)
  obtain ⟨s, rfl, hS⟩ := h
  obtain ⟨p, c, rfl⟩ := hS.form
  have HS := Lib.hid (hS.mono (C' := (· < w.heap.size)) (fun b _ h => h))
  clear hS
  have hb0 := ((Below.refl w.heap.size w).alloc (Nat.le_refl _) (Obj.cells #[.int .i64 t.kind, .slice p t.args.length c] 26)).alloc (by simp) (Obj.cells #[.bool false] 4)
  have hk0 : ((w.alloc (.cells #[.int .i64 t.kind, .slice p t.args.length c] 26)).alloc (.cells #[.bool false] 4)).heap[w.heap.size]? = some (.cells #[.int .i64 t.kind, .slice p t.args.length c] 26 (0, 0)) := by
    rw [Below.heap_alloc _ _ _ (by simp)]; exact blk_new _ _
  have hk1 : ((w.alloc (.cells #[.int .i64 t.kind, .slice p t.args.length c] 26)).alloc (.cells #[.bool false] 4)).heap[w.heap.size + 1]? = some (.cells #[.bool false] 4 (0, 0)) := by
    have := blk_new (w.alloc (.cells #[.int .i64 t.kind, .slice p t.args.length c] 26)) (.cells #[.bool false] 4)
    rwa [World.size_alloc] at this
  have HB0 := Lib.hid hb0
  have HK0 := Lib.hid hk0
  have HK1 := Lib.hid hk1
  clear hb0 hk0 hk1
  refine (callsIn_wide (n := 2)).1 ?_
  refine callsIn_of_wp_marks Try.func23 rfl trivial ?_ rfl
  simp only [Try.ntmps23, List.size_toArray, List.length_cons, List.length_nil, Nat.reduceAdd, Nat.reduceSub, Array.replicate_succ, Array.replicate_zero, List.push_toArray, List.append_toArray, List.nil_append, List.cons_append]
  gi_wp2_with fail
  refine ⟨trivial, ?_⟩
  refine (callsIn_wide.2 (validI_any (HT.out _ HB0.out) hn)).mono ?_
  rintro e w1 ⟨r, hr, rfl, hb1⟩
  have HR := Lib.hid hr
  have hk0 := (hb1.block _ (by simp; omega)).trans HK0.out
  have hk1 := (hb1.block _ (by simp)).trans HK1.out
  have HB1 := Lib.hid (HB0.out.trans (hb1.mono HB0.out.size))
  have hsz1 : w.heap.size + 2 ≤ w1.heap.size := by have := hb1.size; simp at this; omega
  have c0 := cell_of_blk hk0 0
  have c1 := cell_of_blk hk0 1
  have r0 := cell_of_blk hk1 0
  have rz := unfrozen_of_blk hk1 0
  simp only [List.getElem?_toArray, List.getElem?_cons_zero, List.getElem?_cons_succ] at c0 c1 r0
  have HK1' := Lib.hid hk1
  clear hr hb1 hk0 hk1
  cases r with
  | false =>
    have hcc := World.cell?_setCell_same' w1 ⟨w.heap.size + 1, 0, none⟩ (.bool false) (by rw [r0]; rfl)
    gi_wp2_with fail
    refine ⟨.bool false, ?_, _, by rw [Ty.plain, ← HR.out]; rfl, rfl, HB1.out.setCell (p := ⟨w.heap.size + 1, 0, none⟩) (by show w.heap.size ≤ w.heap.size + 1; omega) _⟩
    rw [results_cell1 rfl]
    go_simp
  | true =>
    gi_wp2_with (refine ⟨trivial, ?_⟩; gi_at_call 35; refine (callsIn_wide.2 (tn_any _ _ _ _ _)).mono ?_; rintro e w' ⟨rfl, rfl⟩)
    obtain ⟨wl, hwl⟩ : ∃ wl, w1.alloc (.cells #[.int .i64 t.kind, .slice p t.args.length c] 26) = wl := ⟨_, rfl⟩
    have hsz : wl.heap.size = w1.heap.size + 1 := by rw [← hwl]; simp
    have hbw : Below w1.heap.size w1 wl := by rw [← hwl]; exact (Below.refl _ _).alloc (Nat.le_refl _) _
    have hbl : Below w.heap.size w wl := HB1.out.trans (hbw.mono HB1.out.size)
    have k1 : wl.heap[w.heap.size + 1]? = some (.cells #[.bool false] 4 (0, 0)) := (hbw.block _ (by omega)).trans HK1'.out
    have k2 : wl.heap[w1.heap.size]? = some (.cells #[.int .i64 t.kind, .slice p t.args.length c] 26 (0, 0)) := by rw [← hwl]; exact blk_new _ _
    rw [hwl]
    have HSL : TS wl (· < w.heap.size) t.args (.slice p t.args.length c) := HS.out.keep hbl
    refine range_law (F := Fence.wide) (n := 2) rfl (by omega) (gf := 54) (lb := #[.pointer (some ⟨w1.heap.size, 0, none⟩)]) rfl trivial (enters_of Try.func54 (by kernel_rfl) rfl)
      (nodes_seq w1.heap.size t _ (fun b => b = w.heap.size + 1) (· < w.heap.size) (cell_of_blk k2 0) (cell_of_blk k2 1) HSL hn (fun b h => by omega) (fun b h => ⟨by omega, by omega⟩)) (fun _ => rfl) (fun b h => by omega)
      (fun pre W => W.heap[w.heap.size + 1]? = some (.cells #[.bool false] 4 (0, 0)) ∧ NoCode pre ∧ Below w.heap.size w W)
      (fun j pre W => j = .ret ∧ W.cell? ⟨w.heap.size + 1, 0, none⟩ = some (.bool false) ∧ t.plain = false ∧ Below w.heap.size w W)
      (fun pre A B h hb => ⟨(hb.block _ (by omega)).trans h.1, h.2.1, h.2.2.trans (hb.mono (by omega))⟩)
      (fun j pre A B h hb => ⟨h.1, (hb.cell (by show w.heap.size + 1 < _; omega)).trans h.2.1, h.2.2.1, h.2.2.2.trans (hb.mono (by omega))⟩)
      (good_keep (fun b h => by omega)) ⟨k1, (fun e he => absurd he (List.not_mem_nil)), hbl⟩
      (fun x a' W => ∃ bx sx, x.2.1 = sx ∧ W.heap[bx]? = some (.cells #[.int .i64 x.1.kind, sx] 26 (0, 0)) ∧ a' = { tmps := #[.agg #[.int .i64 t.kind, .slice p t.args.length c], .pointer (some ⟨w.heap.size, 0, none⟩), .pointer (some ⟨w.heap.size + 1, 0, none⟩), .pointer (some ⟨bx, 0, none⟩),
        .agg #[.int .i64 t.kind, .slice p t.args.length c], .bool true, .bool false, .agg #[.int .i64 t.kind, .slice p t.args.length c], .func (.func 54) #[] #[.pointer (some ⟨w1.heap.size, 0, none⟩)], .agg #[.int .i64 x.1.kind, x.2.1], .int .i64 (x.2.2 : Nat), undef, undef], defers := [] })
      (fun x a' W l r o h hl => by
        obtain ⟨bx, sx, h1, h2, h3⟩ := h
        exact ⟨bx, sx, h1, (World.putObj_heap_other (fun e => by rw [e, hl] at h2; cases h2)).trans h2, h3⟩) ?assign ?body ?done ?stop
    case assign =>
      rintro l ⟨x, sx, d⟩ W K hG hK
      obtain ⟨p', c', hf⟩ := hG.form
      simp only at hf
      subst hf
      have HK := Lib.hid hK
      clear hK
      gi_wp2
      exact HK.out _ _ ((Below.refl _ _).alloc (Nat.le_refl _) _) ⟨W.heap.size, _, rfl, blk_new _ _, by simp⟩
    case body =>
      rintro l pre ⟨x, sx, d⟩ a' W ⟨hr, hso, hB⟩ hpre hG ⟨bx, sx', rfl, hbx, rfl⟩
      obtain ⟨p', c', hf⟩ := hG.form
      simp only at hf hbx hpre hG ⊢
      subst hf
      have x0 := cell_of_blk hbx 0
      have x1 := cell_of_blk hbx 1
      simp only [List.getElem?_toArray, List.getElem?_cons_zero, List.getElem?_cons_succ] at x0 x1
      have HG := Lib.hid hG
      have HR1 := Lib.hid hr
      have HB1 := Lib.hid hB
      have HSO := Lib.hid hso
      have HP := Lib.hid hpre
      clear hso hpre hr hbx hB k1 k2 hG HSL hbl hwl hbw c0 c1 r0 rz
      gi_wp2_with fail
      refine ⟨trivial, rfl, ?_⟩
      refine (CallsIn.inRound l (callsIn_wide.2 (isCode_any (C := (· < w.heap.size)) (t := x) ⟨_, rfl, HG.out⟩))).mono ?_
      rintro e W2 ⟨b, hb, rfl, hb2⟩
      have l2 := (Array.getElem?_eq_some_iff.1 HR1.out).1
      have HR2 := Lib.hid ((hb2.block _ l2).trans HR1.out)
      have r2 := cell_of_blk HR2.out 0
      have rz := unfrozen_of_blk HR2.out 0
      simp only [List.getElem?_toArray, List.getElem?_cons_zero] at r2
      have hH2 : Holds (fun b => b = w.heap.size + 1) W W2 := .of_below hb2
      have hB2 : Below w.heap.size w W2 := HB1.out.trans (hb2.mono HB1.out.size)
      have HBB := Lib.hid hb
      have HH2 := Lib.hid hH2
      have HB2 := Lib.hid hB2
      clear hb hb2 hH2 hB2 x0 x1 l2
      cases b with
      | true =>
        have hcc := World.cell?_setCell_same' W2 ⟨w.heap.size + 1, 0, none⟩ (.bool false) (by rw [r2]; rfl)
        have HCC := Lib.hid hcc
        clear hcc
        gi_wp2_with fail
        exact ⟨HH2.out.setCell ⟨w.heap.size + 1, 0, none⟩ rfl _, rfl, HCC.out, not_plain_at HP.out HBB.out.symm, HB2.out.setCell (p := ⟨w.heap.size + 1, 0, none⟩) (by show w.heap.size ≤ w.heap.size + 1; omega) _⟩
      | false =>
        gi_wp2_with fail
        exact ⟨HH2.out, HR2.out, HSO.out.next HBB.out.symm, HB2.out⟩
    case done =>
      rintro D W hD ⟨hr, hso, hB⟩ hK
      have r0 := cell_of_blk hr 0
      have rz := unfrozen_of_blk hr 0
      simp only [List.getElem?_toArray, List.getElem?_cons_zero] at r0
      have HV := Lib.hid (plain_of HR.out.symm hso)
      have HB := Lib.hid hB
      have hK' : (W.setCell ⟨w.heap.size + 1, 0, none⟩ (.bool true)).heap[D]? = some (.deferred (some [])) := (Below.heap_setCell _ _ _ _ (by show D ≠ w.heap.size + 1; omega)).trans hK
      clear hso hB hr hK k1 k2 HSL hbl hwl hbw
      gi_wp2_with fail
      refine ⟨by simp, .inl ⟨_, _, rfl, run_takeDeferred hK', ?_⟩⟩
      have hc := (World.cell?_of_block (a := ⟨w.heap.size + 1, 0, none⟩) (w' := (W.setCell ⟨w.heap.size + 1, 0, none⟩ (.bool true)).putObj D (.deferred none)) (World.putObj_heap_other (by show w.heap.size + 1 ≠ D; omega))).trans (World.cell?_setCell_same' W ⟨w.heap.size + 1, 0, none⟩ (.bool true) (by rw [r0]; rfl))
      refine ⟨.bool true, ?_, _, HV.out.symm, rfl, (HB.out.setCell (p := ⟨w.heap.size + 1, 0, none⟩) (by show w.heap.size ≤ w.heap.size + 1; omega) _).trans (below_putObj _ _ _ _ (by omega))⟩
      rw [results_cell1 rfl]
      go_simp
    case stop =>
      rintro D c pre W hD hpre ⟨rfl, hr, hv, hB⟩ hK
      have HB := Lib.hid hB
      have HV := Lib.hid hv
      clear hv hB k1 k2 HSL hbl hwl hbw
      gi_wp2_with fail
      refine ⟨by simp, .inl ⟨_, _, rfl, run_takeDeferred hK, ?_⟩⟩
      have hc := (World.cell?_of_block (a := ⟨w.heap.size + 1, 0, none⟩) (w' := W.putObj D (.deferred none)) (World.putObj_heap_other (by show w.heap.size + 1 ≠ D; omega))).trans hr
      refine ⟨.bool false, ?_, _, HV.out.symm, rfl, HB.out.trans (below_putObj _ _ _ _ (by omega))⟩
      rw [results_cell1 rfl]
      go_simp
#print axioms plainI_any
end Go.Proofs.Ytfpkfdkmnfpcjaa
