/-
  Several texts of the proof in one (each says below what it holds): SpecErase SpecCopy EraseTypeLaw DrawT1 CxSafeS MapV.
-/
import Derived.Test.YteoeefmdfalnjaaSc8
import Derived.Test.YteoeefmdfalnjaaSc2
import Derived.Test.YteoeefmdfalnjaaSc5
import Derived.Test.YteoeefmdfalnjaaSc1
import Derived.Test.YteoeefmdfalnjaaSc6
import Derived.Deep.RegionWith
import Derived.Maps.OwnOps
import Derived.Maps.OwnSet
import Derived.Maps.Views
import Derived.Below
/- SpecErase: The contract of the model's EraseType. -/
namespace Go.Proofs.Yteoeefmdfalnjaa
open Go Go.RowKit

/-- Types that have been put one behind the other, each with its slice's value. -/
abbrev Got := List (Ty × Value)
def ecells (st : Got) : List Value := st.flatMap fun e => [.int .i64 e.1.kind, e.2]
theorem ecells_length (st : Got) : (ecells st).length = st.length * 2 := by
  induction st with
  | nil => rfl
  | cons e st ih => simp only [ecells, List.flatMap_cons, List.length_append, List.length_cons, List.length_nil] at *; omega
theorem ecells_snoc (st : Got) (e : Ty × Value) : ecells (st ++ [e]) = ecells st ++ [.int .i64 e.1.kind, e.2] := by simp [ecells]
theorem ecells_at (st : Got) (j : Nat) (h : j < st.length) : (ecells st)[j * 2]? = some (.int .i64 st[j].1.kind) ∧ (ecells st)[j * 2 + 1]? = some st[j].2 := by
  induction st generalizing j with
  | nil => simp at h
  | cons e st ih =>
    cases j with
    | zero => simp [ecells]
    | succ j =>
      have := ih j (by simpa using h)
      have e1 : ecells (e :: st) = [.int .i64 e.1.kind, e.2] ++ ecells st := by simp [ecells]
      rw [e1, List.getElem?_append_right (by simp; omega), List.getElem?_append_right (by simp; omega)]
      simp only [List.length_cons, List.length_nil]
      rw [show (j + 1) * 2 - (0 + 1 + 1) = j * 2 by omega, show (j + 1) * 2 + 1 - (0 + 1 + 1) = j * 2 + 1 by omega]
      exact this

/-- A row that grows: what stands in it, each type in blocks from base on that are not the row's. -/
structure Grow (w : World) (base : Nat) (v : Value) (st : Got) : Prop where
  own : w.ownsRow base 41 2 v st.length (ecells st)
  ts : ∀ e ∈ st, TS w (fun z => base ≤ z ∧ v.ownBlock ≠ some z) e.1.args e.2

theorem Grow.start (w : World) (base : Nat) : Grow w base (.slice none 0 0) [] := ⟨World.ownsRow_nil w base _ 2, fun e he => by cases he⟩
theorem Grow.below {w w' : World} {base : Nat} {v : Value} {st : Got} (h : Grow w base v st) (hb : Below w.heap.size w w') : Grow w' base v st := ⟨row_below h.own hb, fun e he => (h.ts e he).keep hb⟩
theorem Grow.app {w w' : World} {base : Nat} {v : Value} {st : Got} {g cap : Nat} {x : Ty} {s : Value} (h : Grow w base v st) (hA : Appd w w' base 41 2 v st.length (ecells st) [.int .i64 x.kind, s] g cap)
    (hx : TS w (fun z => base ≤ z ∧ v.ownBlock ≠ some z) x.args s) : Grow w' base (.slice (some ⟨g, 0, none⟩) (st.length + 1) cap) (st ++ [(x, s)]) := by
  have key : ∀ {ts : List Ty} {s : Value}, TS w (fun z => base ≤ z ∧ v.ownBlock ≠ some z) ts s → TS w' (fun z => base ≤ z ∧ (Value.slice (some ⟨g, 0, none⟩) (st.length + 1) cap).ownBlock ≠ some z) ts s := fun h1 =>
    (h1.mono (C' := fun z => base ≤ z ∧ v.ownBlock ≠ some z ∧ z < w.heap.size) (fun b hb hl => ⟨hb.1, hb.2, hl⟩)).stays ⟨hA.size, fun b hb hl => (hA.kept b hl hb.2.1).1⟩ |>.mono (fun b hb _ => ⟨hb.1, fun e => (hA.kept b hb.2.2 hb.2.1).2 (by simpa [Value.ownBlock] using e)⟩)
  refine ⟨?_, fun e he => ?_⟩
  · rw [List.length_append, ecells_snoc]
    exact hA.own
  · rcases List.mem_append.1 he with he | he
    · exact key (h.ts e he)
    · simp only [List.mem_singleton] at he
      subst he
      exact key hx
theorem Grow.set {w : World} {base : Nat} {v : Value} {st : Got} (h : Grow w base v st) (b o : Nat) (x : Value) (hb : b < base) : Grow (w.setCell ⟨b, o, none⟩ x) base v st := by
  refine ⟨⟨h.own.1, ?_⟩, fun e he => (h.ts e he).stays (setCell_stays _ _ _ _ _ (by omega))⟩
  rcases h.own.2 with h0 | ⟨g, cap, cur, rfl, hg, hblk, r⟩
  · exact Or.inl h0
  · exact Or.inr ⟨g, cap, cur, rfl, hg, (Below.heap_setCell _ _ _ _ (by show g ≠ b; omega)).trans hblk, r⟩
theorem Grow.all {w : World} {base : Nat} {v : Value} {st : Got} (h : Grow w base v st) : TS w (fun z => base ≤ z) (st.map (·.1)) v := by
  rcases h.own.2 with ⟨rfl, h0⟩ | ⟨g, cap, cur, rfl, hg, hblk, h1, h2, h3, h4⟩
  · obtain rfl := List.eq_nil_of_length_eq_zero h0
    exact .nil _ _
  · by_cases hz : st.length = 0
    · obtain rfl := List.eq_nil_of_length_eq_zero hz
      exact .nil _ _
    · have hlt := (Array.getElem?_eq_some_iff.1 hblk).1
      have hl : (st.map (·.1)).length = st.length := List.length_map _
      have at_ : ∀ j x, (st.map (·.1))[j]? = some x → ∃ hj : j < st.length, x = st[j].1 := fun j x hj => by
        rw [List.getElem?_map, Option.map_eq_some_iff] at hj
        obtain ⟨e, he, rfl⟩ := hj
        obtain ⟨hj, rfl⟩ := List.getElem?_eq_some_iff.1 he
        exact ⟨hj, rfl⟩
      have key := TS.cons (w := w) (C := fun z => base ≤ z) (ts := st.map (·.1)) (b := g) (o := 0) (c := cap) (fun j => (st[j]?.getD (.mk 0 [], .nilIface)).2) (by omega) (by omega) (by unfold maxLen at h2; omega) hg hlt
        (fun j x hj => by
          obtain ⟨hj', rfl⟩ := at_ j x hj
          rw [Nat.zero_add, h.own.cellAt (j * 2) (by omega), (ecells_at st j hj').1])
        (fun j x hj => by
          obtain ⟨hj', rfl⟩ := at_ j x hj
          rw [Nat.zero_add, h.own.cellAt (j * 2 + 1) (by omega), (ecells_at st j hj').2, List.getElem?_eq_getElem hj']
          rfl)
        (fun j x hj => by
          obtain ⟨hj', rfl⟩ := at_ j x hj
          rw [List.getElem?_eq_getElem hj']
          exact (h.ts _ (List.getElem_mem hj')).mono (fun b hb _ => hb.1))
      rw [hl] at key
      exact key

/-- A new type, in blocks from where the heap ended. -/
def NewR (t : Ty) (w : World) (e : Ending) (w' : World) : Prop := ∃ v, e = .returned v ∧ TT w' (fun z => w.heap.size ≤ z) t v ∧ Below w.heap.size w w'

theorem keep3 {W w1 : World} {p1 p2 p3 : Addr} {v1 v2 v3 : Value} (hb1 : Below W.heap.size W w1) (h : W.cell? p1 = some v1 ∧ W.cell? p2 = some v2 ∧ W.cell? p3 = some v3) :
    w1.cell? p1 = some v1 ∧ w1.cell? p2 = some v2 ∧ w1.cell? p3 = some v3 :=
  ⟨(hb1.cell (World.block_lt_of_cell? W _ h.1)).trans h.1, (hb1.cell (World.block_lt_of_cell? W _ h.2.1)).trans h.2.1, (hb1.cell (World.block_lt_of_cell? W _ h.2.2)).trans h.2.2⟩

end Go.Proofs.Yteoeefmdfalnjaa
/- SpecCopy: The contract of the draws' l3Copy: the same type, in rows of the call's own. -/
namespace Go.Proofs.Yteoeefmdfalnjaa
open Go Go.RowKit

set_option maxRecDepth 100000 in
set_option maxHeartbeats 2000000 in
theorem copySp_any {w0 : World} {C : Nat → Prop} {ts : List Ty} {v : Value} (h : TS w0 C ts v) : ∀ (w : World) (q : Int), Stays C w0 w → nodesS ts ≤ 1048576 →
    Calls Try.prog 24 #[.agg #[.int .i64 q, v]] w (NewR (Ty.mk q ts) w) := by
  obtain ⟨i0, hi, hz0, hz1, hz2⟩ := info_parts infoTy
  refine TS.ind (motive := fun ts v => ∀ (w : World) (q : Int), Stays C w0 w → nodesS ts ≤ 1048576 → Calls Try.prog 24 #[.agg #[.int .i64 q, v]] w (NewR (Ty.mk q ts) w)) ?_ h
  intro ts p c hl H w q hst hn
  have HH := Lib.hid H
  have HST := Lib.hid hst
  have hlen := nodesS_ge ts
  clear H hst
  go_enter Try.func24, Try.ntmps24
  have HB0 := Lib.hid ((((Below.refl _ w).alloc (Nat.le_refl _) (.cells #[.int .i64 q, .slice p ts.length c] 41)).alloc (by simp) (.cells #[.int .i64 0, .slice none 0 0] 41)).alloc (by simp; omega) (.cells #[.int .i64 q, .slice none 0 0] 41))
  have hK := loop_world3 w #[.int .i64 q, .slice p ts.length c] #[.int .i64 0, .slice none 0 0] #[.int .i64 q, .slice none 0 0] 41 41 41
  have HK := Lib.hid hK
  clear hK
  go_wp2_with fail
  go_loopw [4] (fun i wr => ∃ (k : Nat) (es : Got) (v : Value), k ≤ ts.length ∧ i = .int .i64 k ∧ es.map (·.1) = ts.take k ∧ Grow wr (w.heap.size + 3) v es ∧ wr.heap[w.heap.size]? = some (.cells #[.int .i64 q, .slice p ts.length c] 41 (0, 0)) ∧
    wr.heap[w.heap.size + 1]? = some (.cells #[.int .i64 0, .slice none 0 0] 41 (0, 0)) ∧ wr.heap[w.heap.size + 1 + 1]? = some (.cells #[.int .i64 q, v] 41 (0, 0)) ∧ Below w.heap.size w wr ∧ w.heap.size + 3 ≤ wr.heap.size) (fun i _ => ts.length - (intOf i).toNat)
  case atStart =>
    obtain ⟨wl, hwl, hsz, hbl, q0, q1, q2⟩ := HK.out
    rw [hwl]
    exact ⟨0, [], _, Nat.zero_le _, rfl, by simp, Grow.start _ _, q0, q1, q2, hbl, by omega⟩
  case round =>
    obtain ⟨k, es, v, hk, rfl, hes, hgr, hx0, hx1, hx2, hbr, hsz⟩ := hrel
    have HES := Lib.hid hes
    have HGR := Lib.hid hgr
    have HX0 := Lib.hid hx0
    have HX1 := Lib.hid hx1
    have HX2 := Lib.hid hx2
    have HBR := Lib.hid hbr
    have d0 := cell_of_blk hx0 1
    have d2 := cell_of_blk hx2 0
    have d3 := cell_of_blk hx2 1
    have dz := unfrozen_of_blk hx2
    have r0 := cell_of_blk hx1 0
    have r1 := cell_of_blk hx1 1
    have rz := unfrozen_of_blk hx1
    simp only [List.getElem?_toArray, List.getElem?_cons_zero, List.getElem?_cons_succ] at d0 d2 d3 r0 r1
    clear hes hgr hx0 hx1 hx2 hbr
    by_cases hlk : k < ts.length
    · obtain ⟨b, o, p', c', rfl, hcs, hT, hI⟩ := HH.out k _ (List.getElem?_eq_getElem hlk)
      obtain ⟨f1, f2⟩ := hcs wr (HST.out.trans (Stays.of_below HBR.out))
      have hnk : nodesS ts[k].args ≤ 1048576 := by
        have h1 := nodesS_at ts k hlk
        have h2 := ts[k].nodes_eq
        omega
      have HC := Lib.hid (fun (W : World) (hW : Below w.heap.size w W) => hI W ts[k].kind (HST.out.trans (Stays.of_below hW)) hnk)
      rw [show Ty.mk ts[k].kind ts[k].args = ts[k] from (Ty.eta _).symm] at HC
      have HG := Lib.hid (fun (W : World) (hW : Below wr.drew.heap.size wr.drew W) => HGR.out.below ((Below.refl wr.heap.size wr).drew.trans hW))
      have HD := Lib.hid (fun (W : World) (hW : Below wr.drew.heap.size wr.drew W) => (cell_of_blk ((((Below.refl wr.heap.size wr).drew.trans hW).block _ (Array.getElem?_eq_some_iff.1 HX2.out).1).trans HX2.out) 1 : W.cell? ⟨w.heap.size + 1 + 1, 1, none⟩ = some v))
      have HDZ := Lib.hid (fun (W : World) (hW : Below wr.drew.heap.size wr.drew W) => unfrozen_of_blk ((((Below.refl wr.heap.size wr).drew.trans hW).block _ (Array.getElem?_eq_some_iff.1 HX2.out).1).trans HX2.out))
      have hek : es.length = k := by
        have := congrArg List.length HES.out
        simp only [List.length_map, List.length_take] at this
        omega
      have HEK := Lib.hid hek
      have hbr' := HBR.out
      have hbw : b < w.heap.size := World.block_lt_of_cell? w _ (hcs w HST.out).1
      have HKA := Lib.hid (fun (W : World) (hW : Below wr.drew.heap.size wr.drew W) (x1 x2 : Value) (w' : World) (g2 cap2 : Nat) (hA : Appd W w' (w.heap.size + 3) 41 2 v es.length (ecells es) [x1, x2] g2 cap2) =>
        have kk : ∀ {p : Addr} {u : Value}, wr.cell? p = some u → p.block < w.heap.size + 3 → w'.cell? p = some u := fun {p u} hp hlt =>
          keepApp hA (((((Below.refl wr.heap.size wr).drew.trans hW).cell (World.block_lt_of_cell? wr _ hp)).trans hp) : W.cell? p = some u) (fun e => by have := (HGR.out.own.lt _ e).1; omega)
        (⟨kk d0 (by show w.heap.size < _; omega), kk f1 (by show b < _; omega), kk f2 (by show b < _; omega)⟩ :
          w'.cell? ⟨w.heap.size, 1, none⟩ = some (.slice (some ⟨b, o, none⟩) ts.length c) ∧ w'.cell? ⟨b, o + k * 2, none⟩ = some (.int .i64 ts[k].kind) ∧ w'.cell? ⟨b, o + k * 2 + 1, none⟩ = some (.slice p' ts[k].args.length c')))
      have HKB := Lib.hid (fun (W : World) (hW : Below wr.drew.heap.size wr.drew W) (x1 x2 : Value) (w' : World) (g2 cap2 : Nat) (hA : Appd W w' (w.heap.size + 3) 41 2 v es.length (ecells es) [x1, x2] g2 cap2) =>
        have hB := (((Below.refl wr.heap.size wr).drew.trans hW).block _ (Array.getElem?_eq_some_iff.1 HX2.out).1).trans HX2.out
        (((hA.kept (w.heap.size + 1 + 1) (Array.getElem?_eq_some_iff.1 hB).1 (fun e => by have := (HGR.out.own.lt _ e).1; omega)).1.trans hB) : w'.heap[w.heap.size + 1 + 1]? = some (.cells #[.int .i64 q, v] 41 (0, 0))))
      have i0' : (0 : Int) ≤ (k : Int) := Int.natCast_nonneg _
      have i1' : (k : Int) < (ts.length : Int) := by omega
      clear hcs hT hI r0 r1 rz d2 hek
      go_wp2_with fail
      go_region_law (first
          | (refine step_app1 (w0 := w1) (v := v) (n := es.length) (xs := ecells es) rfl (.tmp 16) (.tmp 23) rfl Try.underlying39 hi hz0 hz1 hz2 rfl (by decide) rfl (HG.out w1 hb1).own _ rfl (by simp) rfl (fun u hu => by simp at hu; rcases hu with rfl | rfl <;> rfl) (by have := HEK.out; unfold maxLen; omega) (by have := HEK.out; omega) (by have := hb1.size; simp at this; omega) ?_; intro w' g2 cap2 hA; have d6b := HKB.out _ hb1 _ _ _ _ _ hA; have d6 : w'.cell? ⟨w.heap.size + 1 + 1, 1, none⟩ = some v := cell_of_blk d6b 1; have d6z := unfrozen_of_blk d6b)
          | (go_simp; go_at_call 24; refine (HC.out _ hbr'.drew).mono ?_; rintro e w1 ⟨v1, rfl, ⟨s1, rfl, hs1⟩, hb1⟩; obtain ⟨p1, c1, rfl⟩ := hs1.form; have d4 := HD.out w1 hb1; have d4z := HDZ.out w1 hb1; have d5 := fun (o : Obj) => (((Below.refl w1.heap.size w1).alloc (Nat.le_refl _) o).cell (World.block_lt_of_cell? w1 _ d4)).trans d4))
      all_goals
        have HA := Lib.hid hA
        have HS1 := Lib.hid hs1
        have HB1 := Lib.hid hb1
        clear hA hs1 hb1 d4 d4z d5 d6 d6b d6z
        go_wp2_with fail
        go_roundw
        case rel =>
          have hd := (Below.refl wr.heap.size wr).drew.trans HB1.out
          have hsw := hd.size
          have hown := HGR.out.own.lt
          have x0 := (hd.block _ (Array.getElem?_eq_some_iff.1 HX0.out).1).trans HX0.out
          have x1 := (hd.block _ (Array.getElem?_eq_some_iff.1 HX1.out).1).trans HX1.out
          have x0' := (HA.out.kept w.heap.size (Array.getElem?_eq_some_iff.1 x0).1 (fun e => by have := (hown _ e).1; omega)).1.trans x0
          have x1' := (HA.out.kept (w.heap.size + 1) (Array.getElem?_eq_some_iff.1 x1).1 (fun e => by have := (hown _ e).1; omega)).1.trans x1
          refine ⟨k + 1, es ++ [(ts[k], .slice p1 ts[k].args.length c1)], .slice (some ⟨g2, 0, none⟩) (es.length + 1) cap2, by omega, by go_num, ?_, ?_, ?_, ?_, ?_, ?_, ?_⟩
          · rw [List.map_append, HES.out, List.take_add_one, List.getElem?_eq_getElem hlk]
            rfl
          · refine ((HG.out w1 HB1.out).app HA.out (HS1.out.mono fun z hz _ => ⟨?_, fun e => ?_⟩)).set _ _ _ (by omega)
            · have : wr.heap.size ≤ z := hz
              omega
            · have h1 : wr.heap.size ≤ z := hz
              have h2 := (hown _ e).2
              omega
          · exact (Below.heap_setCell _ _ _ _ (by show w.heap.size ≠ w.heap.size + 1 + 1; omega)).trans x0'
          · exact (Below.heap_setCell _ _ _ _ (by show w.heap.size + 1 ≠ w.heap.size + 1 + 1; omega)).trans x1'
          · rw [Go.Joins.block_setCell (HKB.out _ HB1.out _ _ _ _ _ HA.out) _]
            rfl
          · exact (HBR.out.trans ((hd.mono HBR.out.size).trans (HA.out.below.mono (by omega)))).setCell (p := ⟨w.heap.size + 1 + 1, 1, none⟩) (by show w.heap.size ≤ w.heap.size + 1 + 1; omega) _
          · have := HA.out.size
            simp [World.setCell]
            omega
        case measure => simp [intOf]; omega
    · obtain rfl : k = ts.length := by omega
      have hT := HGR.out.all
      rw [HES.out, List.take_length] at hT
      obtain ⟨pv, cv, hv⟩ := hT.form
      rw [hv] at d3 hT
      have HT := Lib.hid hT
      clear hT hv HES HGR HX2
      go_wp2_with fail
      refine bodyPost_ret (v := .agg #[.int .i64 q, .slice pv ts.length cv]) ?_ rfl ?_
      · rw [results_cell1 rfl]
        go_simp
      · have hst : ∀ F : Nat → Prop, ¬ F (w.heap.size + 1) → Stays F wr ((wr.setCell ⟨w.heap.size + 1, 0, none⟩ (.int .i64 q)).setCell ⟨w.heap.size + 1, 1, none⟩ (.slice pv ts.length cv)) := fun F hF => (setCell_stays _ _ _ _ F hF).trans (setCell_stays _ _ _ _ F hF)
        refine ⟨_, rfl, ⟨_, rfl, (HT.out.stays (hst _ (by omega))).mono (fun b hb _ => by omega)⟩, (HBR.out.setCell (p := ⟨w.heap.size + 1, 0, none⟩) (by show w.heap.size ≤ w.heap.size + 1; omega) _).setCell (p := ⟨w.heap.size + 1, 1, none⟩) (by show w.heap.size ≤ w.heap.size + 1; omega) _⟩
end Go.Proofs.Yteoeefmdfalnjaa
/- EraseTypeLaw: The walk of the law that EraseType answers as its model does, writes into no argument, and owns its answer. -/
namespace Go.Proofs.Yteoeefmdfalnjaa
open Go Go.RowKit

theorem eraseK_nodes (k : Int) (es : List Ty) : (eraseK k es).nodes ≤ 1 + nodesS es := by
  unfold eraseK
  split
  · next h =>
    obtain ⟨x, rfl⟩ := List.length_eq_one_iff.1 h.2
    simp [nodesS]
  · simp [Ty.nodes]
mutual
theorem erase_nodes : ∀ t : Ty, t.erase.nodes ≤ t.nodes
  | .mk k ts => by
    have h1 := eraseS_nodes ts
    have h2 := eraseK_nodes k (eraseS ts)
    simp only [Ty.erase, Ty.nodes]
    omega
theorem eraseS_nodes : ∀ ts : List Ty, nodesS (eraseS ts) ≤ nodesS ts
  | [] => Nat.le_refl _
  | t :: ts => by
    have h1 := erase_nodes t
    have h2 := eraseS_nodes ts
    simp only [eraseS, nodesS]
    omega
end
theorem erase_args_nodes (t : Ty) : nodesS t.erase.args ≤ nodesS t.args := by
  have h1 := erase_nodes t
  rw [t.nodes_eq, t.erase.nodes_eq] at h1
  omega

/-- A box that holds a type's two cells. -/
def Bx (w : World) (b : Nat) (k : Int) (s : Value) : Prop := w.cell? ⟨b, 0, none⟩ = some (.int .i64 k) ∧ w.cell? ⟨b, 1, none⟩ = some s
theorem Bx.lt {w : World} {b : Nat} {k : Int} {s : Value} (h : Bx w b k s) : b < w.heap.size := World.block_lt_of_cell? w _ h.1
theorem Bx.stays {w w' : World} {b : Nat} {k : Int} {s : Value} {C : Nat → Prop} (h : Bx w b k s) (hs : Stays C w w') (hc : C b) : Bx w' b k s :=
  ⟨(World.cell?_of_block (w := w) (a := ⟨b, 0, none⟩) (hs.2 b hc h.lt)).trans h.1, (World.cell?_of_block (w := w) (a := ⟨b, 1, none⟩) (hs.2 b hc h.lt)).trans h.2⟩
theorem Bx.keep {w w' : World} {b : Nat} {k : Int} {s : Value} (h : Bx w b k s) (hb : Below w.heap.size w w') : Bx w' b k s := h.stays (C := fun _ => True) (.of_below hb) trivial
theorem Bx.new (w : World) (k : Int) (s : Value) (t : TypeId) : Bx (w.alloc (.cells #[.int .i64 k, s] t)) w.heap.size k s :=
  ⟨cell_of_blk (blk_new w _) 0, cell_of_blk (blk_new w _) 1⟩
theorem TT.stays {w w' : World} {C : Nat → Prop} {t : Ty} {v : Value} (h : TT w C t v) (hs : Stays C w w') : TT w' C t v := by
  obtain ⟨s, hv, h⟩ := h
  exact ⟨s, hv, h.stays hs⟩
theorem OT.stays {w w' : World} {F : Nat → Prop} {t : Ty} {v : Value} (h : OT w t v F) (hs : Stays F w w') : OT w' t v F := by
  obtain ⟨s, hv, h⟩ := h
  exact ⟨s, hv, h.stays hs⟩
theorem alloc_below (w : World) (o : Obj) : Below w.heap.size w (w.alloc o) := (Below.refl _ w).alloc (Nat.le_refl _) o

end Go.Proofs.Yteoeefmdfalnjaa
/- DrawT1: The contracts of the draws' l3Int, l3Code, l3Fun: a new type over copies, its row of the call's own. -/
namespace Go.Proofs.Yteoeefmdfalnjaa
open Go Go.RowKit

/-- A new type whose row is its own, each part in other blocks. -/
def NewG (t : Ty) (base : Nat) (w' : World) (v : Value) : Prop := ∃ (s : Value) (es : Got), v = .agg #[.int .i64 t.kind, s] ∧ es.map (·.1) = t.args ∧ Grow w' base s es
def GrowRet (t : Ty) (w : World) (e : Ending) (w' : World) : Prop := ∃ v, e = .returned v ∧ NewG t w.heap.size w' v ∧ Below w.heap.size w w'
theorem NewG.tt {t : Ty} {base : Nat} {w : World} {v : Value} (h : NewG t base w v) : TT w (fun z => base ≤ z) t v := by
  obtain ⟨s, es, rfl, he, hg⟩ := h
  exact ⟨s, rfl, he ▸ hg.all⟩
theorem Grow.lit {W : World} {base : Nat} {es : Got} {cs : Array Value} {n : Nat} (hn : n = es.length) (hcs : cs = (ecells es).toArray) (hb : base ≤ W.heap.size) (hm : es.length ≤ maxLen) (hts : ∀ e ∈ es, TS W (fun z => base ≤ z) e.1.args e.2) :
    Grow (W.alloc (.cells cs 41)) base (.slice (some ⟨W.heap.size, 0, none⟩) n n) es := by
  subst hn hcs
  refine ⟨⟨by rw [ecells_length], Or.inr ⟨W.heap.size, es.length, (ecells es).toArray, rfl, hb, blk_new W _, Nat.le_refl _, hm, by simp [ecells_length], by simp [← ecells_length]⟩⟩, fun e he => ?_⟩
  exact ((hts e he).mono (C' := fun z => base ≤ z ∧ z < W.heap.size) (fun b h1 h2 => ⟨h1, h2⟩) |>.keep ((Below.refl _ _).alloc (Nat.le_refl _) _)).mono (fun b hb _ => ⟨hb.1, fun e => by simp [Value.ownBlock] at e; omega⟩)

theorem Grow.base {w : World} {a b : Nat} {v : Value} {st : Got} (h : Grow w b v st) (hab : a ≤ b) : Grow w a v st := by
  refine ⟨⟨h.own.1, ?_⟩, fun e he => (h.ts e he).mono (fun z hz _ => ⟨Nat.le_trans hab hz.1, hz.2⟩)⟩
  rcases h.own.2 with h0 | ⟨g, cap, cur, rfl, hg, r⟩
  · exact Or.inl h0
  · exact Or.inr ⟨g, cap, cur, rfl, Nat.le_trans hab hg, r⟩
theorem NewG.base {t : Ty} {a b : Nat} {w : World} {v : Value} (h : NewG t b w v) (hab : a ≤ b) : NewG t a w v := by
  obtain ⟨s, es, h1, h2, h3⟩ := h
  exact ⟨s, es, h1, h2, h3.base hab⟩
theorem al_cell {w : World} {b i : Nat} {v : Value} (h : w.cell? ⟨b, i, none⟩ = some v) (o : Obj) : (w.alloc o).cell? ⟨b, i, none⟩ = some v :=
  (((Below.refl w.heap.size w).alloc (Nat.le_refl _) o).cell (World.block_lt_of_cell? w _ h)).trans h
theorem al_blk {w : World} {b : Nat} {x : Obj} (h : w.heap[b]? = some x) (o : Obj) : (w.alloc o).heap[b]? = some x :=
  (Below.heap_alloc _ _ _ (Array.getElem?_eq_some_iff.1 h).1).trans h
theorem al_frz {w : World} {b : Nat} {cs : Array Value} {t : TypeId} (h : w.heap[b]? = some (.cells cs t (0, 0))) (o : Obj) (i : Nat) : (w.alloc o).frozen? ⟨b, i, none⟩ = false := unfrozen_of_blk (al_blk h o) i

theorem copyT_any {C : Nat → Prop} {t : Ty} {v : Value} {w : World} (h : TT w C t v) (hn : nodesS t.args ≤ 1048576) : Calls Try.prog 24 #[v] w (NewR t w) := by
  obtain ⟨s, rfl, h⟩ := h
  have := copySp_any h w t.kind (Stays.refl _ _) hn
  rwa [← Ty.eta t] at this

/-- What holds while the two copies are made: the boxes, the result's cell as it was. -/
structure Two (w : World) (k1 k2 : Int) (s1 s2 : Value) (W : World) : Prop where
  b1 : Bx W w.heap.size k1 s1
  b2 : Bx W (w.heap.size + 1) k2 s2
  r : W.heap[w.heap.size + 1 + 1]? = some (.cells #[.int .i64 0, .slice none 0 0] 41 (0, 0))
  below : Below w.heap.size w W
  ge : w.heap.size + 3 ≤ W.heap.size
theorem Two.keep {w : World} {k1 k2 : Int} {s1 s2 : Value} {W W' : World} (h : Two w k1 k2 s1 s2 W) (hb : Below W.heap.size W W') : Two w k1 k2 s1 s2 W' :=
  ⟨h.b1.keep hb, h.b2.keep hb, (hb.block _ (Array.getElem?_eq_some_iff.1 h.r).1).trans h.r, h.below.trans (hb.mono h.below.size), Nat.le_trans h.ge hb.size⟩
theorem two_fin {w W : World} {k1 k2 : Int} {p1 p2 : Value} {t u : Ty} {s1 s2 : Value} (h : Two w k1 k2 p1 p2 W) (h1 : TS W (fun z => w.heap.size + 3 ≤ z) t.args s1) (h2 : TS W (fun z => w.heap.size + 3 ≤ z) u.args s2) :
    GrowRet (.mk 3 [t, u]) w (.returned (.agg #[.int .i64 3, .slice (some ⟨W.heap.size, 0, none⟩) 2 2])) (((W.alloc (.cells #[.int .i64 t.kind, s1, .int .i64 u.kind, s2] 41)).setCell ⟨w.heap.size + 1 + 1, 0, none⟩ (.int .i64 3)).setCell ⟨w.heap.size + 1 + 1, 1, none⟩ (.slice (some ⟨W.heap.size, 0, none⟩) 2 2)) := by
  have hg : Grow _ (w.heap.size + 3) (.slice (some ⟨W.heap.size, 0, none⟩) 2 2) [(t, s1), (u, s2)] := Grow.lit (W := W) (cs := #[.int .i64 t.kind, s1, .int .i64 u.kind, s2]) (n := 2) rfl rfl h.ge (by simp [maxLen]) (fun e he => by
    rcases List.mem_cons.1 he with rfl | he
    · exact h1
    · rw [List.mem_singleton] at he
      subst he
      exact h2)
  refine ⟨_, rfl, ⟨_, [(t, s1), (u, s2)], rfl, rfl, ((hg.set (w.heap.size + 1 + 1) 0 _ (by omega)).set (w.heap.size + 1 + 1) 1 _ (by omega)).base (by omega)⟩, ?_⟩
  exact ((h.below.alloc h.below.size _).setCell (p := ⟨w.heap.size + 1 + 1, 0, none⟩) (by show w.heap.size ≤ w.heap.size + 1 + 1; omega) _).setCell (p := ⟨w.heap.size + 1 + 1, 1, none⟩) (by show w.heap.size ≤ w.heap.size + 1 + 1; omega) _

end Go.Proofs.Yteoeefmdfalnjaa
/- CxSafeS: The contract of the model's SafeCtx, exactly, at every context. -/
namespace Go.Proofs.Yteoeefmdfalnjaa
open Go Go.RowKit

def SafeSRet (L : List Tg) (n : Int) (w : World) (e : Ending) (w' : World) : Prop := ∃ v, e = .returned v ∧ DM w' (fun z => w.heap.size ≤ z) (cxD (safeL L n)) v ∧ Below w.heap.size w w'
set_option maxRecDepth 100000 in
set_option maxHeartbeats 2000000 in
theorem safeS_any {C : Nat → Prop} {L : List Tg} {v : Value} {w : World} (n : Int) (h : DM w C (cxD L) v) (hn : wtC L ≤ 1048576) :
    Calls Try.prog 10 #[v, .int .i64 n] w (SafeSRet L n w) := by
  obtain ⟨i0, hi, hz0, hz1, hz2⟩ := info_parts infoCx
  obtain ⟨q, c, rfl⟩ := h.form
  have hlen := h.len.1
  have hge := wtC_ge L
  obtain ⟨wl, hwl, hsz, hbl, q0⟩ := box_new w #[] 43
  have HI0 : Hid (SafeI w [] (.slice (some ⟨w.heap.size, 0, none⟩) 0 0) [] (fun _ => False) wl) := Lib.hid ⟨hbl, ⟨⟨rfl, Or.inr ⟨w.heap.size, 0, #[], rfl, Nat.le_refl _, q0, Nat.le_refl _, by decide, rfl, rfl⟩⟩, by simp⟩, fun z hz => hz.elim⟩
  have HH := Lib.hid h
  have HSZ := Lib.hid hsz
  have HWL := Lib.hid hwl
  clear h hsz hbl q0 hwl
  go_enter Try.func10, Try.ntmps10
  go_wp2_with fail
  rw [show w.alloc (.cells #[] 43) = wl from HWL.out]
  go_loopw [5, 6] (fun o i wr => ∃ (k : Nat) (L' : List Tg) (ar : Addr) (cc : Nat) (us : List Value) (D : Nat → Prop), k ≤ L.length ∧ i = .int .i64 k ∧ L' = safeUpto L n k ∧ L'.length ≤ k ∧ o = .slice (some ar) L'.length cc ∧ SafeI w L' (.slice (some ar) L'.length cc) us D wr) (fun _ i _ => L.length - (intOf i).toNat)
  case atStart => exact ⟨0, [], _, 0, [], _, Nat.zero_le _, rfl, rfl, Nat.zero_le _, rfl, HI0.out⟩
  case round =>
    obtain ⟨k, L', ar, cc, us, D, hk, rfl, hsf, hL', rfl, hI⟩ := hrel
    have HI := Lib.hid hI
    have HSF := Lib.hid hsf
    clear hI hsf
    by_cases hlk : k < L.length
    · obtain ⟨b, o, p, c', rfl, hC, hb, hat, hts⟩ := cx_part HH.out k hlk
      have HAT := Lib.hid hat
      have HTS := Lib.hid hts
      have hwk := wtC_at L k hlk
      unfold Tg.wt at hwk
      obtain ⟨g0, g1, g2, g3⟩ := hat wr (.of_below HI.out.below)
      clear hC hb hat hts
      go_wp2_with fail
      refine (base_any ⟨_, rfl, HTS.out.stays (.of_below HI.out.below)⟩).mono ?_
      rintro e w1 ⟨q1, hq1, rfl, hb1⟩
      have HQ1 : Hid (q1 = L[k].ty.base) := Lib.hid hq1
      have HI1 := Lib.hid (HI.out.keep hb1)
      obtain ⟨k0, k1, k2, k3⟩ := HAT.out w1 (.of_below HI1.out.below)
      clear hb1 g0 g1 g2 g3 hq1
      cases q1 with
      | false =>
        go_wp2_with fail
        go_roundw
        case rel => exact ⟨k + 1, L', ar, cc, us, D, by omega, by go_num, by rw [safeUpto_no hlk (fun h => by have := HQ1.out; rw [h.1] at this; simp at this)]; exact HSF.out, by omega, rfl, HI1.out⟩
        case measure => simp [intOf]; omega
      | true =>
        by_cases hlv : L[k].lv ≤ n
        · go_wp2_with fail
          refine (lastS_any L[k].nm (HH.out.stays (.of_below HI1.out.below)) (by omega)).mono ?_
          rintro e w2 ⟨rfl, rfl⟩
          obtain ⟨r, hr0⟩ : ∃ r, ixInt (lastIx L L[k].nm) = r := ⟨_, rfl⟩
          rw [hr0]
          have HR0 := Lib.hid hr0
          clear hr0
          by_cases hr : r = (k : Int)
          · have hix : lastIx L L[k].nm = some k := ix_some (HR0.out.trans hr)
            have HSF2 := Lib.hid (safeUpto_yes (n := n) hlk (by rw [← HQ1.out]) hlv hix)
            have HC := Lib.hid (copyT_any (⟨_, rfl, HTS.out.stays (.of_below HI1.out.below.drew)⟩ : TT w2.drew C L[k].ty (.agg #[.int .i64 L[k].ty.kind, .slice p L[k].ty.args.length c'])) (by omega))
            clear hix
            go_wp2_with fail
            go_region_law (first
              | (refine step_app1 (w0 := w3) rfl (.tmp 40) (.tmp 58) rfl Try.underlying25 hi hz0 hz1 hz2 rfl (by decide) rfl HI3.out.row.own _ rfl (by simp) rfl (fun u hu => by simp at hu; rcases hu with rfl | rfl | rfl | rfl <;> rfl) (by unfold maxLen; omega) (by omega) HI3.out.below.size ?_; intro w4 g cap hA; have HA := Lib.hid hA; clear hA)
              | (go_simp; go_at_call 24; refine HC.out.mono ?_; rintro e w3 ⟨v3, rfl, ⟨s3, rfl, hT3⟩, hb3⟩; obtain ⟨p3, c3, rfl⟩ := hT3.form
                 have HI3 := Lib.hid ((HI1.out.keep (Below.refl _ w2).drew).keep hb3)
                 have HT3 := Lib.hid hT3
                 have HB3 := Lib.hid hb3
                 obtain ⟨m0, m1, m2, m3⟩ := HAT.out w3 (.of_below HI3.out.below)
                 clear hT3 hb3))
            all_goals
              clear k0 k1 k2 k3 m0 m1 m2 m3
              go_wp2_with fail
              go_roundw
              case rel =>
                refine ⟨k + 1, L' ++ [L[k]], ⟨g, 0, none⟩, cap, us ++ [.string L[k].nm, .int .i64 L[k].ty.kind, .slice p3 L[k].ty.args.length c3, .int .i64 L[k].lv], fun z => D z ∨ (w2.drew.heap.size ≤ z ∧ z < w3.heap.size), by omega, by go_num, by rw [HSF2.out, HSF.out], by simp; omega, by simp, ?_⟩
                have h9 := (HI1.out.keep (Below.refl _ w2).drew).app HB3.out HA.out ⟨p3, c3, rfl, HT3.out.mono (fun z hz hl => ⟨hz, hl⟩)⟩
                rw [List.length_append, List.length_singleton]
                exact h9
              case measure => simp [intOf]; omega
          · have HNO : Hid (¬ (L[k].ty.base = true ∧ L[k].lv ≤ n ∧ lastIx L L[k].nm = some k)) := Lib.hid (fun h => hr (by rw [← HR0.out, h.2.2]; rfl))
            go_wp2_with fail
            go_roundw
            case rel => exact ⟨k + 1, L', ar, cc, us, D, by omega, by go_num, by rw [safeUpto_no hlk HNO.out]; exact HSF.out, by omega, rfl, HI1.out⟩
            case measure => simp [intOf]; omega
        · go_wp2_with fail
          go_roundw
          case rel => exact ⟨k + 1, L', ar, cc, us, D, by omega, by go_num, by rw [safeUpto_no hlk (fun h => by have := h.2.1; omega)]; exact HSF.out, by omega, rfl, HI1.out⟩
          case measure => simp [intOf]; omega
    · obtain rfl : k = L.length := by omega
      go_wp2_with fail
      go_ret
      show SafeSRet L n w (.returned (.slice (some ar) L'.length cc)) wr
      have hl : safeL L n = L' := HSF.out.symm
      exact ⟨_, rfl, hl ▸ HI.out.row.dm (fun z hz => (HI.out.dom z hz).1) (fun g hg => (HI.out.row.own.lt g hg).1), HI.out.below⟩
#print axioms safeS_any
end Go.Proofs.Yteoeefmdfalnjaa
/- MapV: A map from strings to values of any make that a call made itself, as a function, of no program: what a look-up gives, what a store leaves. -/
namespace Go.Proofs.Yteoeefmdfalnjaa
open Go Go.RowKit Go.Maps Go.WideMaps

def heldR (v : Value) : Option (DataW Value × List MemPlace) := some (.held v, [])
/-- Block b of w is a map (of at most n entries) that gives f s at s; z stands for what it lacks. -/
def MapV (P : Program) (k : TypeId) (w : World) (b n : Nat) (z : Value) (f : ByteArray → Value) : Prop :=
  ∃ D : DataW Value, w.ownsMap P k heldR b n D ∧ ∀ s : ByteArray, s.size ≤ maxLen → D.atKey (.string s.data.toList) (.held z) = .held (f s)
section
variable {P : Program} {k e : TypeId} {w : World} {b n : Nat} {z : Value} {f : ByteArray → Value}
theorem mapV_made (w : World) (P : Program) (k : TypeId) (z : Value) : MapV P k (w.alloc (.map #[] 0)) w.heap.size 0 z (fun _ => z) :=
  ⟨.map [], World.ownsMap_made _ _ _ _, fun _ _ => rfl⟩
theorem MapV.mono (h : MapV P k w b n z f) {n' : Nat} (hn : n ≤ n') : MapV P k w b n' z f := by
  obtain ⟨D, h1, h2⟩ := h
  exact ⟨D, h1.mono hn, h2⟩
theorem MapV.congr (h : MapV P k w b n z f) {f' : ByteArray → Value} (hp : ∀ s, f s = f' s) : MapV P k w b n z f' := by
  obtain ⟨D, h1, h2⟩ := h
  exact ⟨D, h1, fun s hs => by rw [h2 s hs, hp s]⟩
theorem MapV.lt (h : MapV P k w b n z f) : b < w.heap.size := by
  obtain ⟨D, h1, _⟩ := h
  exact h1.lt
theorem MapV.of_block {w' : World} (h : MapV P k w b n z f) (hb : w'.heap[b]? = w.heap[b]?) : MapV P k w' b n z f := by
  obtain ⟨D, ⟨es, clock, hb0, F, hs, hD⟩, h2⟩ := h
  exact ⟨D, ⟨es, clock, hb.trans hb0, F, hs, hD⟩, h2⟩
theorem MapV.look {t : TypeId} (h : MapV P k w b n z f) (K : Keyed P k) (hk : P.underlying k = some .string) (ht : P.underlying t = some (.map k e)) (hz : (zeroValue e).run P w = .ok z w)
    {s : ByteArray} (hs : s.size ≤ maxLen) : (Instr.lookup t (.map (some b)) (.string s) false).run P w = .ok (f s) w := by
  obtain ⟨D, h1, h2⟩ := h
  obtain ⟨v, ps, hrun, hv⟩ := h1.lookup K ht hz (zd := .held z) (zp := []) rfl (keyOf_string_mk hk hs)
  rw [h2 s hs] at hv
  simp only [heldR, Option.some.injEq, Prod.mk.injEq, DataW.held.injEq] at hv
  rw [hrun, hv.1]
theorem MapV.store {t : TypeId} (h : MapV P k w b n z f) (K : Keyed P k) (hk : P.underlying k = some .string) (ht : P.underlying t = some (.map k e)) (hn : n < maxLen)
    {s : ByteArray} (hs : s.size ≤ maxLen) (v : Value) : ∃ w', (Instr.mapUpdate t (.map (some b)) (.string s) v).run P w = .ok () w' ∧ MapV P k w' b (n + 1) z (fun x => if x = s then v else f x) ∧ w.grownBy w' (some b) := by
  obtain ⟨D, h1, h2⟩ := h
  obtain ⟨w', hrun, hown, hg⟩ := h1.update K ht hn (keyOf_string_mk hk hs) (d := .held v) (ps := []) (val := v) rfl
  refine ⟨w', hrun, ⟨_, hown, fun x hx => ?_⟩, hg⟩
  have ik : WideAt.IsKeyLit (.string s.data.toList) := by simp [WideAt.IsKeyLit]
  by_cases hxs : x = s
  · subst hxs
    rw [atKey_put_same h1.isMap ik]
    simp
  · have hne : Lit.string x.data.toList ≠ Lit.string s.data.toList := by
      intro hc
      apply hxs
      obtain ⟨⟨x⟩⟩ := x
      obtain ⟨⟨s⟩⟩ := s
      rw [show x = s by simpa using hc]
    rw [atKey_put_other hne, h2 x hx]
    simp [hxs]
end
theorem wpList_look_v {P : Program} (w : World) {ops : Array Oper} {rest : List Oper} {o : Oper} {a : Act} {Q : Exit → Act → World → Prop} {k e : TypeId} {b n : Nat} {z : Value} {f : ByteArray → Value} (hg : o.guard = none) (m x : Operand) (t : TypeId) (hop : o.op = Op.lookup t m x false)
    (K : Keyed P k) (hk : P.underlying k = some .string) (ht : P.underlying t = some (.map k e)) (hz : (zeroValue e).run P w = .ok z w)
    (hm : a.eval m = .map (some b)) (hmap : MapV P k w b n z f) (s : ByteArray) (hx : a.eval x = .string s) (hs : s.size ≤ maxLen) (r : Value) (hr : f s = r) (hK : wpList P ops Q rest (a.put o.dst r) w) :
    wpList P ops Q (o :: rest) a w := by
  refine wpList_plain hg fun K' hK' => ?_
  have hrun := hmap.look K hk ht hz hs
  rw [hr] at hrun
  unfold Oper.wp
  simp [execOp, hop, hm, hx, hrun, Result.andThen]
  exact hK' _ _ hK
theorem wpList_store_v {P : Program} (w : World) {ops : Array Oper} {rest : List Oper} {o : Oper} {a : Act} {Q : Exit → Act → World → Prop} {k e : TypeId} {b n : Nat} {z : Value} {f : ByteArray → Value} (hg : o.guard = none) (m x y : Operand) (t : TypeId) (hop : o.op = Op.mapUpdate t m x y)
    (K : Keyed P k) (hk : P.underlying k = some .string) (ht : P.underlying t = some (.map k e)) (hm : a.eval m = .map (some b)) (hmap : MapV P k w b n z f) (hn : n < maxLen) (s : ByteArray) (hx : a.eval x = .string s) (hs : s.size ≤ maxLen) (v : Value) (hv : a.eval y = v)
    (hK : ∀ w', MapV P k w' b (n + 1) z (fun x => if x = s then v else f x) → w.grownBy w' (some b) → wpList P ops Q rest (a.put o.dst undef) w') :
    wpList P ops Q (o :: rest) a w := by
  refine wpList_plain hg fun K' hK' => ?_
  obtain ⟨w', hrun, r1, r2⟩ := hmap.store K hk ht hn hs v
  unfold Oper.wp
  simp [execOp, hop, hm, hx, hv, hrun, Result.andThen]
  exact hK' _ _ (hK w' r1 r2)
end Go.Proofs.Yteoeefmdfalnjaa
