/-
  The contract of the program's CountSplices.
-/
import Derived.Test.YtdfnjfelmfccjaaLvP0
namespace Go.Proofs.Ytdfnjfelmfccjaa
open Go Go.RowKit Go.Shelf
attribute [local go_sem] Oper.semAt_some

set_option maxRecDepth 100000 in
set_option maxHeartbeats 2000000 in
theorem splI_any {C : Nat → Prop} {t : Tm} {v : Value} {w : World} (h : TM w C t v) (hn : t.wt ≤ 2097152) :
    Calls Try.prog 7 #[v] w (IntRet (fun r => r = ((t.splices : Nat) : Int)) w) := by
  have hnt : t.nodes ≤ 2097153 := by have := t.nodes_wt; omega
  obtain ⟨tp, tc, rp, rc, p, c, rfl, hT⟩ := h
  have HT := Lib.hid (hT.mono (C' := (· < w.heap.size)) (fun _ _ h => h))
  clear hT
  refine (callsIn_wide (n := 2)).1 ?_
  refine callsIn_of_wp_marks Try.func7 rfl trivial ?_ rfl
  simp only [Try.ntmps7, List.size_toArray, List.length_cons, List.length_nil, Nat.reduceAdd, Nat.reduceSub, Array.replicate_succ, Array.replicate_zero, List.push_toArray, List.append_toArray, List.nil_append, List.cons_append]
  gi_wp2_with fail
  obtain ⟨w0, hw0, hs0, hb0, hk0, hk1⟩ := box_new2 w (tmC t tp tc rp rc p c) #[.int .i64 0] 35 3
  rw [hw0]
  refine ⟨trivial, ?_⟩
  refine (callsIn_wide.2 (tnM_any (HT.out.stays (.of_below hb0)))).mono ?_
  rintro e wl ⟨Bt, Bp, rfl, hI, hbw, hBt, hBp⟩
  have hsz := hbw.size
  have hbl : Below w.heap.size w wl := hb0.trans (hbw.mono hb0.size)
  have k1 : wl.heap[w.heap.size + 1]? = some (.cells #[.int .i64 0] 3 (0, 0)) := (hbw.block _ (by omega)).trans hk1
  have hbp := (Array.getElem?_eq_some_iff.1 hI.bp).1
  have HSL : TM' wl (fun b => b < w.heap.size ∨ b = Bp) t tp tc rp rc p c := (HT.out.stays (.of_below hbl)).mono (fun z hz _ => Or.inl hz)
  clear hk0 hk1 hb0 hw0
  gi_wp2_with fail
  refine range_law (F := Fence.wide) (n := 2) rfl (by omega) (gf := 22) (lb := #[.pointer (some ⟨Bt, 0, none⟩), .pointer (some ⟨Bp, 0, none⟩)]) rfl trivial (enters_of Try.func22 (by kernel_rfl) rfl)
    (nodesM_seq2 hI HSL hnt (Below.refl _ _) (fun b => b = w.heap.size + 1) (fun b h => by omega) (fun b h => by omega) (Or.inr rfl)) (fun _ => rfl) (fun b h => by omega)
    (fun pre W => W.cell? ⟨w.heap.size + 1, 0, none⟩ = some (.int .i64 ((spl pre : Nat) : Int)) ∧ W.frozen? ⟨w.heap.size + 1, 0, none⟩ = false ∧ Below w.heap.size w W)
    (fun _ _ _ => False)
    (fun pre A B h hb => ⟨(hb.cell (by show w.heap.size + 1 < _; omega)).trans h.1, (hb.frozen (by show w.heap.size + 1 < _; omega)).trans h.2.1, h.2.2.trans (hb.mono (by omega))⟩)
    (fun _ _ _ _ h _ => h)
    (goodM_keep (fun b h => by omega)) ⟨cell_of_blk k1 0, unfrozen_of_blk k1 0, hbl⟩
    (fun x a' W => ∃ bx, W.heap[bx]? = some (.cells x.2.1.cells 35 (0, 0)) ∧ a' = { tmps := #[tmV t tp tc rp rc p c, .pointer (some ⟨w.heap.size, 0, none⟩), .int .i64 0, .pointer (some ⟨w.heap.size + 1, 0, none⟩), .pointer (some ⟨bx, 0, none⟩),
      tmV t tp tc rp rc p c, iterM Bt Bp, x.2.1, .int .i64 (x.2.2 : Nat), undef, undef, undef, undef, undef, undef], defers := [] })
    (fun x a' W l r o h hl => by
      obtain ⟨bx, h2, h3⟩ := h
      exact ⟨bx, (World.putObj_heap_other (fun e => by rw [e, hl] at h2; cases h2)).trans h2, h3⟩) ?assign ?body ?done ?stop
  case assign =>
    rintro l ⟨x, v, d⟩ W K hG hK
    have hG : TM W _ x v := hG
    obtain ⟨tp', tc', rp', rc', p', c', rfl, hG'⟩ := hG
    have HK := Lib.hid hK
    clear hK
    gi_wp2
    exact HK.out _ _ ((Below.refl _ _).alloc (Nat.le_refl _) _) ⟨W.heap.size, blk_new _ _, by simp⟩
  case body =>
    rintro l pre ⟨x, v, d⟩ a' W ⟨r2, rz, hB⟩ hpre hG ⟨bx, hbx, rfl⟩
    have hpre : pre ++ [(x, d)] <+: walkM t 1 := hpre
    have hbx : W.heap[bx]? = some (.cells v.cells 35 (0, 0)) := hbx
    have hG : TM W _ x v := hG
    obtain ⟨tp', tc', rp', rc', p', c', rfl, hG'⟩ := hG
    simp only [Value.cells] at hbx
    obtain ⟨x0, _, _, _, _, _, _, _, _⟩ := Bx9.of hbx
    have hlen := walkM_pre hpre hnt
    rw [List.length_append, List.length_singleton] at hlen
    have hsp := spl_le pre
    have hsn := spl_snoc pre x d
    have HSN := Lib.hid hsn
    have HB := Lib.hid hB
    have HR := Lib.hid r2
    have HZ := Lib.hid rz
    clear hpre hbx hB k1 hG' HSL hbl hbw hI hsn
    by_cases hk : x.kind = 11
    · have t1 : (x.kind == 11) = true := by simp [hk]
      have HK := Lib.hid hk
      clear hk
      gi_wp2_with fail
      refine ⟨Holds.setCell (Cb := fun b => b = w.heap.size + 1) (Holds.refl _ W) ⟨w.heap.size + 1, 0, none⟩ rfl _, ?_, by rw [World.frozen?_setCell]; exact HZ.out, HB.out.setCell (p := ⟨w.heap.size + 1, 0, none⟩) (by show w.heap.size ≤ w.heap.size + 1; omega) _⟩
      show (World.setCell W ⟨w.heap.size + 1, 0, none⟩ _).cell? ⟨w.heap.size + 1, 0, none⟩ = some (.int .i64 ((spl (pre ++ [(x, d)]) : Nat) : Int))
      rw [HSN.out, if_pos HK.out]
      exact World.cell?_setCell_same' _ _ _ (by rw [HR.out]; rfl)
    · have t1 : (x.kind == 11) = false := by simp [hk]
      have HK := Lib.hid hk
      clear hk
      gi_wp2_with fail
      refine ⟨Holds.refl _ _, ?_, HZ.out, HB.out⟩
      show W.cell? ⟨w.heap.size + 1, 0, none⟩ = some (.int .i64 ((spl (pre ++ [(x, d)]) : Nat) : Int))
      rw [HSN.out, if_neg HK.out]
      exact HR.out
  case done =>
    rintro D W hD ⟨r0, _, hB⟩ hK
    have HB := Lib.hid hB
    have HS := Lib.hid (splices_walk t 1)
    clear hB k1 HSL hbl hbw hI
    gi_wp2_with fail
    refine ⟨by simp, .inl ⟨_, _, rfl, run_takeDeferred hK, ?_⟩⟩
    exact ⟨_, results_tmp rfl _ _ _, _, by rw [HS.out], rfl, HB.out.trans (below_putObj _ _ _ _ (by omega))⟩
  case stop =>
    rintro D c pre W _ _ h _
    exact h.elim
#print axioms splI_any
end Go.Proofs.Ytdfnjfelmfccjaa

