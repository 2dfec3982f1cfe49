/-
  The contract of the draws' l3Copy: the same type, in rows of the call's own.
-/
import Derived.Test.YtjobmgbchpoheaaSpecErase
namespace Go.Proofs.Ytjobmgbchpoheaa
open Go Go.RowKit

set_option maxRecDepth 100000 in
set_option maxHeartbeats 2000000 in
theorem copySp_any {w0 : World} {C : Nat → Prop} {ts : List Ty} {v : Value} (h : TS w0 C ts v) : ∀ (w : World) (q : Int), Stays C w0 w → nodesS ts ≤ 1048576 →
    Calls Try.prog 31 #[.agg #[.int .i64 q, v]] w (NewR (Ty.mk q ts) w) := by
  obtain ⟨i0, hi, hz0, hz1, hz2⟩ := info_parts infoTy
  refine TS.ind (motive := fun ts v => ∀ (w : World) (q : Int), Stays C w0 w → nodesS ts ≤ 1048576 → Calls Try.prog 31 #[.agg #[.int .i64 q, v]] w (NewR (Ty.mk q ts) w)) ?_ h
  intro ts p c hl H w q hst hn
  have HH := Lib.hid H
  have HST := Lib.hid hst
  have hlen := nodesS_ge ts
  clear H hst
  go_enter Try.func31, Try.ntmps31
  have HB0 := Lib.hid ((((Below.refl _ w).alloc (Nat.le_refl _) (.cells #[.int .i64 q, .slice p ts.length c] 26)).alloc (by simp) (.cells #[.int .i64 0, .slice none 0 0] 26)).alloc (by simp; omega) (.cells #[.int .i64 q, .slice none 0 0] 26))
  have hK := loop_world3 w #[.int .i64 q, .slice p ts.length c] #[.int .i64 0, .slice none 0 0] #[.int .i64 q, .slice none 0 0] 26 26 26
  have HK := Lib.hid hK
  clear hK
  go_wp2_with fail
  go_loopw [4] (fun i wr => ∃ (k : Nat) (es : Got) (v : Value), k ≤ ts.length ∧ i = .int .i64 k ∧ es.map (·.1) = ts.take k ∧ Grow wr (w.heap.size + 3) v es ∧ wr.heap[w.heap.size]? = some (.cells #[.int .i64 q, .slice p ts.length c] 26 (0, 0)) ∧
    wr.heap[w.heap.size + 1]? = some (.cells #[.int .i64 0, .slice none 0 0] 26 (0, 0)) ∧ wr.heap[w.heap.size + 1 + 1]? = some (.cells #[.int .i64 q, v] 26 (0, 0)) ∧ Below w.heap.size w wr ∧ w.heap.size + 3 ≤ wr.heap.size) (fun i _ => ts.length - (intOf i).toNat)
  case atStart =>
    obtain ⟨wl, hwl, hsz, hbl, q0, q1, q2⟩ := HK.out
    rw [hwl]
    exact ⟨0, [], _, Nat.zero_le _, rfl, by simp, Grow.start _ _, q0, q1, q2, hbl, by omega⟩
  case round =>
    obtain ⟨k, es, v, hk, rfl, hes, hgr, hx0, hx1, hx2, hbr, hsz⟩ := hrel
    have HES := Lib.hid hes
    have HGR := Lib.hid hgr
    have HX0 := Lib.hid hx0
    have HX1 := Lib.hid hx1
    have HX2 := Lib.hid hx2
    have HBR := Lib.hid hbr
    have d0 := cell_of_blk hx0 1
    have d2 := cell_of_blk hx2 0
    have d3 := cell_of_blk hx2 1
    have dz := unfrozen_of_blk hx2
    have r0 := cell_of_blk hx1 0
    have r1 := cell_of_blk hx1 1
    have rz := unfrozen_of_blk hx1
    simp only [List.getElem?_toArray, List.getElem?_cons_zero, List.getElem?_cons_succ] at d0 d2 d3 r0 r1
    clear hes hgr hx0 hx1 hx2 hbr
    by_cases hlk : k < ts.length
    · obtain ⟨b, o, p', c', rfl, hcs, hT, hI⟩ := HH.out k _ (List.getElem?_eq_getElem hlk)
      obtain ⟨f1, f2⟩ := hcs wr (HST.out.trans (Stays.of_below HBR.out))
      have hnk : nodesS ts[k].args ≤ 1048576 := by
        have h1 := nodesS_at ts k hlk
        have h2 := ts[k].nodes_eq
        omega
      have HC := Lib.hid (fun (W : World) (hW : Below w.heap.size w W) => hI W ts[k].kind (HST.out.trans (Stays.of_below hW)) hnk)
      rw [show Ty.mk ts[k].kind ts[k].args = ts[k] from (Ty.eta _).symm] at HC
      have HG := Lib.hid (fun (W : World) (hW : Below wr.drew.heap.size wr.drew W) => HGR.out.below ((Below.refl wr.heap.size wr).drew.trans hW))
      have HD := Lib.hid (fun (W : World) (hW : Below wr.drew.heap.size wr.drew W) => (cell_of_blk ((((Below.refl wr.heap.size wr).drew.trans hW).block _ (Array.getElem?_eq_some_iff.1 HX2.out).1).trans HX2.out) 1 : W.cell? ⟨w.heap.size + 1 + 1, 1, none⟩ = some v))
      have HDZ := Lib.hid (fun (W : World) (hW : Below wr.drew.heap.size wr.drew W) => unfrozen_of_blk ((((Below.refl wr.heap.size wr).drew.trans hW).block _ (Array.getElem?_eq_some_iff.1 HX2.out).1).trans HX2.out))
      have hek : es.length = k := by
        have := congrArg List.length HES.out
        simp only [List.length_map, List.length_take] at this
        omega
      have HEK := Lib.hid hek
      have hbr' := HBR.out
      have hbw : b < w.heap.size := World.block_lt_of_cell? w _ (hcs w HST.out).1
      have HKA := Lib.hid (fun (W : World) (hW : Below wr.drew.heap.size wr.drew W) (x1 x2 : Value) (w' : World) (g2 cap2 : Nat) (hA : Appd W w' (w.heap.size + 3) 26 2 v es.length (ecells es) [x1, x2] g2 cap2) =>
        have kk : ∀ {p : Addr} {u : Value}, wr.cell? p = some u → p.block < w.heap.size + 3 → w'.cell? p = some u := fun {p u} hp hlt =>
          keepApp hA (((((Below.refl wr.heap.size wr).drew.trans hW).cell (World.block_lt_of_cell? wr _ hp)).trans hp) : W.cell? p = some u) (fun e => by have := (HGR.out.own.lt _ e).1; omega)
        (⟨kk d0 (by show w.heap.size < _; omega), kk f1 (by show b < _; omega), kk f2 (by show b < _; omega)⟩ :
          w'.cell? ⟨w.heap.size, 1, none⟩ = some (.slice (some ⟨b, o, none⟩) ts.length c) ∧ w'.cell? ⟨b, o + k * 2, none⟩ = some (.int .i64 ts[k].kind) ∧ w'.cell? ⟨b, o + k * 2 + 1, none⟩ = some (.slice p' ts[k].args.length c')))
      have HKB := Lib.hid (fun (W : World) (hW : Below wr.drew.heap.size wr.drew W) (x1 x2 : Value) (w' : World) (g2 cap2 : Nat) (hA : Appd W w' (w.heap.size + 3) 26 2 v es.length (ecells es) [x1, x2] g2 cap2) =>
        have hB := (((Below.refl wr.heap.size wr).drew.trans hW).block _ (Array.getElem?_eq_some_iff.1 HX2.out).1).trans HX2.out
        (((hA.kept (w.heap.size + 1 + 1) (Array.getElem?_eq_some_iff.1 hB).1 (fun e => by have := (HGR.out.own.lt _ e).1; omega)).1.trans hB) : w'.heap[w.heap.size + 1 + 1]? = some (.cells #[.int .i64 q, v] 26 (0, 0))))
      have i0' : (0 : Int) ≤ (k : Int) := Int.natCast_nonneg _
      have i1' : (k : Int) < (ts.length : Int) := by omega
      clear hcs hT hI r0 r1 rz d2 hek
      go_wp2_with fail
      go_region_law (first
          | (refine step_app1 (w0 := w1) (v := v) (n := es.length) (xs := ecells es) rfl (.tmp 16) (.tmp 23) rfl Try.underlying24 hi hz0 hz1 hz2 rfl (by decide) rfl (HG.out w1 hb1).own _ rfl (by simp) rfl (fun u hu => by simp at hu; rcases hu with rfl | rfl <;> rfl) (by have := HEK.out; unfold maxLen; omega) (by have := HEK.out; omega) (by have := hb1.size; simp at this; omega) ?_; intro w' g2 cap2 hA; have d6b := HKB.out _ hb1 _ _ _ _ _ hA; have d6 : w'.cell? ⟨w.heap.size + 1 + 1, 1, none⟩ = some v := cell_of_blk d6b 1; have d6z := unfrozen_of_blk d6b)
          | (go_simp; go_at_call 31; refine (HC.out _ hbr'.drew).mono ?_; rintro e w1 ⟨v1, rfl, ⟨s1, rfl, hs1⟩, hb1⟩; obtain ⟨p1, c1, rfl⟩ := hs1.form; have d4 := HD.out w1 hb1; have d4z := HDZ.out w1 hb1; have d5 := fun (o : Obj) => (((Below.refl w1.heap.size w1).alloc (Nat.le_refl _) o).cell (World.block_lt_of_cell? w1 _ d4)).trans d4))
      all_goals
        have HA := Lib.hid hA
        have HS1 := Lib.hid hs1
        have HB1 := Lib.hid hb1
        clear hA hs1 hb1 d4 d4z d5 d6 d6b d6z
        go_wp2_with fail
        go_roundw
        case rel =>
          have hd := (Below.refl wr.heap.size wr).drew.trans HB1.out
          have hsw := hd.size
          have hown := HGR.out.own.lt
          have x0 := (hd.block _ (Array.getElem?_eq_some_iff.1 HX0.out).1).trans HX0.out
          have x1 := (hd.block _ (Array.getElem?_eq_some_iff.1 HX1.out).1).trans HX1.out
          have x0' := (HA.out.kept w.heap.size (Array.getElem?_eq_some_iff.1 x0).1 (fun e => by have := (hown _ e).1; omega)).1.trans x0
          have x1' := (HA.out.kept (w.heap.size + 1) (Array.getElem?_eq_some_iff.1 x1).1 (fun e => by have := (hown _ e).1; omega)).1.trans x1
          refine ⟨k + 1, es ++ [(ts[k], .slice p1 ts[k].args.length c1)], .slice (some ⟨g2, 0, none⟩) (es.length + 1) cap2, by omega, by go_num, ?_, ?_, ?_, ?_, ?_, ?_, ?_⟩
          · rw [List.map_append, HES.out, List.take_add_one, List.getElem?_eq_getElem hlk]
            rfl
          · refine ((HG.out w1 HB1.out).app HA.out (HS1.out.mono fun z hz _ => ⟨?_, fun e => ?_⟩)).set _ _ _ (by omega)
            · have : wr.heap.size ≤ z := hz
              omega
            · have h1 : wr.heap.size ≤ z := hz
              have h2 := (hown _ e).2
              omega
          · exact (Below.heap_setCell _ _ _ _ (by show w.heap.size ≠ w.heap.size + 1 + 1; omega)).trans x0'
          · exact (Below.heap_setCell _ _ _ _ (by show w.heap.size + 1 ≠ w.heap.size + 1 + 1; omega)).trans x1'
          · rw [Go.Joins.block_setCell (HKB.out _ HB1.out _ _ _ _ _ HA.out) _]
            rfl
          · exact (HBR.out.trans ((hd.mono HBR.out.size).trans (HA.out.below.mono (by omega)))).setCell (p := ⟨w.heap.size + 1 + 1, 1, none⟩) (by show w.heap.size ≤ w.heap.size + 1 + 1; omega) _
          · have := HA.out.size
            simp [World.setCell]
            omega
        case measure => simp [intOf]; omega
    · obtain rfl : k = ts.length := by omega
      have hT := HGR.out.all
      rw [HES.out, List.take_length] at hT
      obtain ⟨pv, cv, hv⟩ := hT.form
      rw [hv] at d3 hT
      have HT := Lib.hid hT
      clear hT hv HES HGR HX2
      go_wp2_with fail
      refine bodyPost_ret (v := .agg #[.int .i64 q, .slice pv ts.length cv]) ?_ rfl ?_
      · rw [results_cell1 rfl]
        go_simp
      · have hst : ∀ F : Nat → Prop, ¬ F (w.heap.size + 1) → Stays F wr ((wr.setCell ⟨w.heap.size + 1, 0, none⟩ (.int .i64 q)).setCell ⟨w.heap.size + 1, 1, none⟩ (.slice pv ts.length cv)) := fun F hF => (setCell_stays _ _ _ _ F hF).trans (setCell_stays _ _ _ _ F hF)
        refine ⟨_, rfl, ⟨_, rfl, (HT.out.stays (hst _ (by omega))).mono (fun b hb _ => by omega)⟩, (HBR.out.setCell (p := ⟨w.heap.size + 1, 0, none⟩) (by show w.heap.size ≤ w.heap.size + 1; omega) _).setCell (p := ⟨w.heap.size + 1, 1, none⟩) (by show w.heap.size ≤ w.heap.size + 1; omega) _⟩
end Go.Proofs.Ytjobmgbchpoheaa

