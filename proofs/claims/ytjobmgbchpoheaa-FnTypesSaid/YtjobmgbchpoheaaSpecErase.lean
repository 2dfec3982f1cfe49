/-
  The contract of the model's EraseType.
-/
import Derived.Test.YtjobmgbchpoheaaGrowE
namespace Go.Proofs.Ytjobmgbchpoheaa
open Go Go.RowKit

/-- Types that have been put one behind the other, each with its slice's value. -/
abbrev Got := List (Ty × Value)
def ecells (st : Got) : List Value := st.flatMap fun e => [.int .i64 e.1.kind, e.2]
theorem ecells_length (st : Got) : (ecells st).length = st.length * 2 := by
  induction st with
  | nil => rfl
  | cons e st ih => simp only [ecells, List.flatMap_cons, List.length_append, List.length_cons, List.length_nil] at *; omega
theorem ecells_snoc (st : Got) (e : Ty × Value) : ecells (st ++ [e]) = ecells st ++ [.int .i64 e.1.kind, e.2] := by simp [ecells]
theorem ecells_at (st : Got) (j : Nat) (h : j < st.length) : (ecells st)[j * 2]? = some (.int .i64 st[j].1.kind) ∧ (ecells st)[j * 2 + 1]? = some st[j].2 := by
  induction st generalizing j with
  | nil => simp at h
  | cons e st ih =>
    cases j with
    | zero => simp [ecells]
    | succ j =>
      have := ih j (by simpa using h)
      have e1 : ecells (e :: st) = [.int .i64 e.1.kind, e.2] ++ ecells st := by simp [ecells]
      rw [e1, List.getElem?_append_right (by simp; omega), List.getElem?_append_right (by simp; omega)]
      simp only [List.length_cons, List.length_nil]
      rw [show (j + 1) * 2 - (0 + 1 + 1) = j * 2 by omega, show (j + 1) * 2 + 1 - (0 + 1 + 1) = j * 2 + 1 by omega]
      exact this

/-- A row that grows: what stands in it, each type in blocks from base on that are not the row's. -/
structure Grow (w : World) (base : Nat) (v : Value) (st : Got) : Prop where
  own : w.ownsRow base 26 2 v st.length (ecells st)
  ts : ∀ e ∈ st, TS w (fun z => base ≤ z ∧ v.ownBlock ≠ some z) e.1.args e.2

theorem Grow.start (w : World) (base : Nat) : Grow w base (.slice none 0 0) [] := ⟨World.ownsRow_nil w base _ 2, fun e he => by cases he⟩
theorem Grow.below {w w' : World} {base : Nat} {v : Value} {st : Got} (h : Grow w base v st) (hb : Below w.heap.size w w') : Grow w' base v st := ⟨row_below h.own hb, fun e he => (h.ts e he).keep hb⟩
theorem Grow.app {w w' : World} {base : Nat} {v : Value} {st : Got} {g cap : Nat} {x : Ty} {s : Value} (h : Grow w base v st) (hA : Appd w w' base 26 2 v st.length (ecells st) [.int .i64 x.kind, s] g cap)
    (hx : TS w (fun z => base ≤ z ∧ v.ownBlock ≠ some z) x.args s) : Grow w' base (.slice (some ⟨g, 0, none⟩) (st.length + 1) cap) (st ++ [(x, s)]) := by
  have key : ∀ {ts : List Ty} {s : Value}, TS w (fun z => base ≤ z ∧ v.ownBlock ≠ some z) ts s → TS w' (fun z => base ≤ z ∧ (Value.slice (some ⟨g, 0, none⟩) (st.length + 1) cap).ownBlock ≠ some z) ts s := fun h1 =>
    (h1.mono (C' := fun z => base ≤ z ∧ v.ownBlock ≠ some z ∧ z < w.heap.size) (fun b hb hl => ⟨hb.1, hb.2, hl⟩)).stays ⟨hA.size, fun b hb hl => (hA.kept b hl hb.2.1).1⟩ |>.mono (fun b hb _ => ⟨hb.1, fun e => (hA.kept b hb.2.2 hb.2.1).2 (by simpa [Value.ownBlock] using e)⟩)
  refine ⟨?_, fun e he => ?_⟩
  · rw [List.length_append, ecells_snoc]
    exact hA.own
  · rcases List.mem_append.1 he with he | he
    · exact key (h.ts e he)
    · simp only [List.mem_singleton] at he
      subst he
      exact key hx
theorem Grow.set {w : World} {base : Nat} {v : Value} {st : Got} (h : Grow w base v st) (b o : Nat) (x : Value) (hb : b < base) : Grow (w.setCell ⟨b, o, none⟩ x) base v st := by
  refine ⟨⟨h.own.1, ?_⟩, fun e he => (h.ts e he).stays (setCell_stays _ _ _ _ _ (by omega))⟩
  rcases h.own.2 with h0 | ⟨g, cap, cur, rfl, hg, hblk, r⟩
  · exact Or.inl h0
  · exact Or.inr ⟨g, cap, cur, rfl, hg, (Below.heap_setCell _ _ _ _ (by show g ≠ b; omega)).trans hblk, r⟩
theorem Grow.all {w : World} {base : Nat} {v : Value} {st : Got} (h : Grow w base v st) : TS w (fun z => base ≤ z) (st.map (·.1)) v := by
  rcases h.own.2 with ⟨rfl, h0⟩ | ⟨g, cap, cur, rfl, hg, hblk, h1, h2, h3, h4⟩
  · obtain rfl := List.eq_nil_of_length_eq_zero h0
    exact .nil _ _
  · by_cases hz : st.length = 0
    · obtain rfl := List.eq_nil_of_length_eq_zero hz
      exact .nil _ _
    · have hlt := (Array.getElem?_eq_some_iff.1 hblk).1
      have hl : (st.map (·.1)).length = st.length := List.length_map _
      have at_ : ∀ j x, (st.map (·.1))[j]? = some x → ∃ hj : j < st.length, x = st[j].1 := fun j x hj => by
        rw [List.getElem?_map, Option.map_eq_some_iff] at hj
        obtain ⟨e, he, rfl⟩ := hj
        obtain ⟨hj, rfl⟩ := List.getElem?_eq_some_iff.1 he
        exact ⟨hj, rfl⟩
      have key := TS.cons (w := w) (C := fun z => base ≤ z) (ts := st.map (·.1)) (b := g) (o := 0) (c := cap) (fun j => (st[j]?.getD (.mk 0 [], .nilIface)).2) (by omega) (by omega) (by unfold maxLen at h2; omega) hg hlt
        (fun j x hj => by
          obtain ⟨hj', rfl⟩ := at_ j x hj
          rw [Nat.zero_add, h.own.cellAt (j * 2) (by omega), (ecells_at st j hj').1])
        (fun j x hj => by
          obtain ⟨hj', rfl⟩ := at_ j x hj
          rw [Nat.zero_add, h.own.cellAt (j * 2 + 1) (by omega), (ecells_at st j hj').2, List.getElem?_eq_getElem hj']
          rfl)
        (fun j x hj => by
          obtain ⟨hj', rfl⟩ := at_ j x hj
          rw [List.getElem?_eq_getElem hj']
          exact (h.ts _ (List.getElem_mem hj')).mono (fun b hb _ => hb.1))
      rw [hl] at key
      exact key

/-- A new type, in blocks from where the heap ended. -/
def NewR (t : Ty) (w : World) (e : Ending) (w' : World) : Prop := ∃ v, e = .returned v ∧ TT w' (fun z => w.heap.size ≤ z) t v ∧ Below w.heap.size w w'

theorem keep3 {W w1 : World} {p1 p2 p3 : Addr} {v1 v2 v3 : Value} (hb1 : Below W.heap.size W w1) (h : W.cell? p1 = some v1 ∧ W.cell? p2 = some v2 ∧ W.cell? p3 = some v3) :
    w1.cell? p1 = some v1 ∧ w1.cell? p2 = some v2 ∧ w1.cell? p3 = some v3 :=
  ⟨(hb1.cell (World.block_lt_of_cell? W _ h.1)).trans h.1, (hb1.cell (World.block_lt_of_cell? W _ h.2.1)).trans h.2.1, (hb1.cell (World.block_lt_of_cell? W _ h.2.2)).trans h.2.2⟩

set_option maxRecDepth 100000 in
set_option maxHeartbeats 2000000 in
theorem eraseSp_any {w0 : World} {C : Nat → Prop} {ts : List Ty} {v : Value} (h : TS w0 C ts v) : ∀ (w : World) (q : Int), Stays C w0 w → nodesS ts ≤ 1048576 →
    Calls Try.prog 19 #[.agg #[.int .i64 q, v]] w (NewR (Ty.mk q ts).erase w) := by
  obtain ⟨i0, hi, hz0, hz1, hz2⟩ := info_parts infoTy
  refine TS.ind (motive := fun ts v => ∀ (w : World) (q : Int), Stays C w0 w → nodesS ts ≤ 1048576 → Calls Try.prog 19 #[.agg #[.int .i64 q, v]] w (NewR (Ty.mk q ts).erase w)) ?_ h
  intro ts p c hl H w q hst hn
  have HH := Lib.hid H
  have HST := Lib.hid hst
  have hlen := nodesS_ge ts
  clear H hst
  go_enter Try.func19, Try.ntmps19
  by_cases hcode : q = 4 ∧ ts.length = 1
  · obtain ⟨hq, hl1⟩ := hcode
    subst hq
    obtain ⟨z, hz⟩ := List.length_eq_one_iff.1 hl1
    subst hz
    clear hl1 hlen hl
    simp only [List.length_singleton]
    obtain ⟨b, o, p', c', rfl, hcs, hT, hI⟩ := HH.out 0 z rfl
    obtain ⟨wl, hwl⟩ : ∃ wl, (w.alloc (.cells #[.int .i64 4, .slice (some ⟨b, o, none⟩) 1 c] 26)).alloc (.cells #[.int .i64 0, .slice none 0 0] 26) = wl := ⟨_, rfl⟩
    have hbl : Below w.heap.size w wl := by rw [← hwl]; exact ((Below.refl _ w).alloc (Nat.le_refl _) _).alloc (by simp) _
    have hwl1 : wl.heap[w.heap.size + 1]? = some (.cells #[.int .i64 0, .slice none 0 0] 26 (0, 0)) := by
      rw [← hwl]
      have := blk_new (w.alloc (.cells #[.int .i64 4, .slice (some ⟨b, o, none⟩) 1 c] 26)) (.cells #[.int .i64 0, .slice none 0 0] 26)
      rwa [World.size_alloc] at this
    obtain ⟨f1, f2⟩ := hcs wl (HST.out.trans (Stays.of_below hbl))
    simp only [Nat.zero_mul, Nat.add_zero] at f1 f2
    rw [← hwl] at f1 f2
    have hnz : nodesS z.args ≤ 1048576 := by have := hn; simp only [nodesS, Ty.nodes_eq] at this; omega
    have HC := Lib.hid (hI wl z.kind (HST.out.trans (Stays.of_below hbl)) hnz)
    rw [← hwl, show (Ty.mk z.kind z.args).erase = (Ty.mk 4 [z]).erase by rw [← Ty.eta]; simp [Ty.erase, eraseS, eraseK]] at HC
    have HBL := Lib.hid hbl
    have HWL := Lib.hid hwl
    have HWL1 := Lib.hid hwl1
    clear hbl hwl1 hwl hcs hT hI
    go_wp2_with fail
    refine HC.out.mono ?_
    rintro e w1 ⟨v1, rfl, ⟨s1, rfl, hs1⟩, hb1⟩
    rw [HWL.out] at hb1 hs1
    obtain ⟨p1, c1, rfl⟩ := hs1.form
    have r1 := (hb1.block _ (Array.getElem?_eq_some_iff.1 HWL1.out).1).trans HWL1.out
    have g0 := cell_of_blk r1 0
    have g1 := cell_of_blk r1 1
    have gz := unfrozen_of_blk r1
    simp only [List.getElem?_toArray, List.getElem?_cons_zero, List.getElem?_cons_succ] at g0 g1
    have HS1 := Lib.hid hs1
    have HB1 := Lib.hid (HBL.out.trans (hb1.mono HBL.out.size))
    have hwls : wl.heap.size = w.heap.size + 2 := by rw [← HWL.out]; simp
    clear hb1 hs1 r1
    go_wp2_with fail
    refine bodyPost_ret (v := .agg #[.int .i64 (Ty.mk 4 [z]).erase.kind, .slice p1 (Ty.mk 4 [z]).erase.args.length c1]) ?_ rfl ?_
    · rw [results_cell1 rfl]
      go_simp
    · refine ⟨_, rfl, ⟨_, rfl, ?_⟩, (HB1.out.setCell (p := ⟨w.heap.size + 1, 0, none⟩) (by show w.heap.size ≤ w.heap.size + 1; omega) _).setCell (p := ⟨w.heap.size + 1, 1, none⟩) (by show w.heap.size ≤ w.heap.size + 1; omega) _⟩
      have hst : ∀ F : Nat → Prop, ¬ F (w.heap.size + 1) → Stays F w1 ((w1.setCell ⟨w.heap.size + 1, 0, none⟩ (.int .i64 (Ty.mk 4 [z]).erase.kind)).setCell ⟨w.heap.size + 1, 1, none⟩ (.slice p1 (Ty.mk 4 [z]).erase.args.length c1)) := fun F hF => (setCell_stays _ _ _ _ F hF).trans (setCell_stays _ _ _ _ F hF)
      exact (HS1.out.stays (hst _ (by omega))).mono (fun b hb _ => by omega)
  · have herase : (Ty.mk q ts).erase = .mk q (ts.map Ty.erase) := erase_node (y := Ty.mk q ts) (by unfold Ty.code; rw [decide_eq_false_iff_not]; exact hcode)
    rw [herase]
    have HC0 := Lib.hid hcode
    clear herase
    have HB0 := Lib.hid ((((Below.refl _ w).alloc (Nat.le_refl _) (.cells #[.int .i64 q, .slice p ts.length c] 26)).alloc (by simp) (.cells #[.int .i64 0, .slice none 0 0] 26)).alloc (by simp; omega) (.cells #[.int .i64 q, .slice none 0 0] 26))
    have hK := loop_world3 w #[.int .i64 q, .slice p ts.length c] #[.int .i64 0, .slice none 0 0] #[.int .i64 q, .slice none 0 0] 26 26 26
    have HK := Lib.hid hK
    clear hK
    have hb : ((q == 4) = true ∧ ((ts.length : Int) == 1) = false) ∨ (q == 4) = false := by
      by_cases hq : q = 4
      · refine Or.inl ⟨by simp [hq], ?_⟩
        rw [Bool.eq_false_iff]
        intro h
        rw [beq_iff_eq] at h
        exact hcode ⟨hq, by omega⟩
      · exact Or.inr (by simp [hq])
    clear hcode
    rcases hb with ⟨b1, b2⟩ | b1
    all_goals
      go_wp2_with fail
      go_loopw [4] (fun i wr => ∃ (k : Nat) (es : Got) (v : Value), k ≤ ts.length ∧ i = .int .i64 k ∧ es.map (·.1) = (ts.take k).map Ty.erase ∧ Grow wr (w.heap.size + 3) v es ∧ wr.heap[w.heap.size]? = some (.cells #[.int .i64 q, .slice p ts.length c] 26 (0, 0)) ∧
        wr.heap[w.heap.size + 1]? = some (.cells #[.int .i64 0, .slice none 0 0] 26 (0, 0)) ∧ wr.heap[w.heap.size + 1 + 1]? = some (.cells #[.int .i64 q, v] 26 (0, 0)) ∧ Below w.heap.size w wr ∧ w.heap.size + 3 ≤ wr.heap.size) (fun i _ => ts.length - (intOf i).toNat)
      case atStart =>
        obtain ⟨wl, hwl, hsz, hbl, q0, q1, q2⟩ := HK.out
        rw [hwl]
        exact ⟨0, [], _, Nat.zero_le _, rfl, by simp, Grow.start _ _, q0, q1, q2, hbl, by omega⟩
      case round =>
        obtain ⟨k, es, v, hk, rfl, hes, hgr, hx0, hx1, hx2, hbr, hsz⟩ := hrel
        have HES := Lib.hid hes
        have HGR := Lib.hid hgr
        have HX0 := Lib.hid hx0
        have HX1 := Lib.hid hx1
        have HX2 := Lib.hid hx2
        have HBR := Lib.hid hbr
        have d0 := cell_of_blk hx0 1
        have d2 := cell_of_blk hx2 0
        have d3 := cell_of_blk hx2 1
        have dz := unfrozen_of_blk hx2
        have r0 := cell_of_blk hx1 0
        have r1 := cell_of_blk hx1 1
        have rz := unfrozen_of_blk hx1
        simp only [List.getElem?_toArray, List.getElem?_cons_zero, List.getElem?_cons_succ] at d0 d2 d3 r0 r1
        clear hes hgr hx0 hx1 hx2 hbr
        by_cases hlk : k < ts.length
        · obtain ⟨b, o, p', c', rfl, hcs, hT, hI⟩ := HH.out k _ (List.getElem?_eq_getElem hlk)
          obtain ⟨f1, f2⟩ := hcs wr (HST.out.trans (Stays.of_below HBR.out))
          have hnk : nodesS ts[k].args ≤ 1048576 := by
            have h1 := nodesS_at ts k hlk
            have h2 := ts[k].nodes_eq
            omega
          have HC := Lib.hid (fun (W : World) (hW : Below w.heap.size w W) => hI W ts[k].kind (HST.out.trans (Stays.of_below hW)) hnk)
          rw [show Ty.mk ts[k].kind ts[k].args = ts[k] from (Ty.eta _).symm] at HC
          have HG := Lib.hid (fun (W : World) (hW : Below wr.drew.heap.size wr.drew W) => HGR.out.below ((Below.refl wr.heap.size wr).drew.trans hW))
          have HD := Lib.hid (fun (W : World) (hW : Below wr.drew.heap.size wr.drew W) => (cell_of_blk ((((Below.refl wr.heap.size wr).drew.trans hW).block _ (Array.getElem?_eq_some_iff.1 HX2.out).1).trans HX2.out) 1 : W.cell? ⟨w.heap.size + 1 + 1, 1, none⟩ = some v))
          have HDZ := Lib.hid (fun (W : World) (hW : Below wr.drew.heap.size wr.drew W) => unfrozen_of_blk ((((Below.refl wr.heap.size wr).drew.trans hW).block _ (Array.getElem?_eq_some_iff.1 HX2.out).1).trans HX2.out))
          have hek : es.length = k := by
            have := congrArg List.length HES.out
            simp only [List.length_map, List.length_take] at this
            omega
          have HEK := Lib.hid hek
          have hbr' := HBR.out
          have hbw : b < w.heap.size := World.block_lt_of_cell? w _ (hcs w HST.out).1
          have HKA := Lib.hid (fun (W : World) (hW : Below wr.drew.heap.size wr.drew W) (x1 x2 : Value) (w' : World) (g2 cap2 : Nat) (hA : Appd W w' (w.heap.size + 3) 26 2 v es.length (ecells es) [x1, x2] g2 cap2) =>
            have kk : ∀ {p : Addr} {u : Value}, wr.cell? p = some u → p.block < w.heap.size + 3 → w'.cell? p = some u := fun {p u} hp hlt =>
              keepApp hA (((((Below.refl wr.heap.size wr).drew.trans hW).cell (World.block_lt_of_cell? wr _ hp)).trans hp) : W.cell? p = some u) (fun e => by have := (HGR.out.own.lt _ e).1; omega)
            (⟨kk d0 (by show w.heap.size < _; omega), kk f1 (by show b < _; omega), kk f2 (by show b < _; omega)⟩ :
              w'.cell? ⟨w.heap.size, 1, none⟩ = some (.slice (some ⟨b, o, none⟩) ts.length c) ∧ w'.cell? ⟨b, o + k * 2, none⟩ = some (.int .i64 ts[k].kind) ∧ w'.cell? ⟨b, o + k * 2 + 1, none⟩ = some (.slice p' ts[k].args.length c')))
          have HKB := Lib.hid (fun (W : World) (hW : Below wr.drew.heap.size wr.drew W) (x1 x2 : Value) (w' : World) (g2 cap2 : Nat) (hA : Appd W w' (w.heap.size + 3) 26 2 v es.length (ecells es) [x1, x2] g2 cap2) =>
            have hB := (((Below.refl wr.heap.size wr).drew.trans hW).block _ (Array.getElem?_eq_some_iff.1 HX2.out).1).trans HX2.out
            (((hA.kept (w.heap.size + 1 + 1) (Array.getElem?_eq_some_iff.1 hB).1 (fun e => by have := (HGR.out.own.lt _ e).1; omega)).1.trans hB) : w'.heap[w.heap.size + 1 + 1]? = some (.cells #[.int .i64 q, v] 26 (0, 0))))
          have i0' : (0 : Int) ≤ (k : Int) := Int.natCast_nonneg _
          have i1' : (k : Int) < (ts.length : Int) := by omega
          clear hcs hT hI r0 r1 rz d2 hek
          go_wp2_with fail
          go_region_law (first
              | (refine step_app1 (w0 := w1) (v := v) (n := es.length) (xs := ecells es) rfl (.tmp 30) (.tmp 37) rfl Try.underlying24 hi hz0 hz1 hz2 rfl (by decide) rfl (HG.out w1 hb1).own _ rfl (by simp) rfl (fun u hu => by simp at hu; rcases hu with rfl | rfl <;> rfl) (by have := HEK.out; unfold maxLen; omega) (by have := HEK.out; omega) (by have := hb1.size; simp at this; omega) ?_; intro w' g2 cap2 hA; have d6b := HKB.out _ hb1 _ _ _ _ _ hA; have d6 : w'.cell? ⟨w.heap.size + 1 + 1, 1, none⟩ = some v := cell_of_blk d6b 1; have d6z := unfrozen_of_blk d6b)
              | (go_simp; go_at_call 19; refine (HC.out _ hbr'.drew).mono ?_; rintro e w1 ⟨v1, rfl, ⟨s1, rfl, hs1⟩, hb1⟩; obtain ⟨p1, c1, rfl⟩ := hs1.form; have d4 := HD.out w1 hb1; have d4z := HDZ.out w1 hb1; have d5 := fun (o : Obj) => (((Below.refl w1.heap.size w1).alloc (Nat.le_refl _) o).cell (World.block_lt_of_cell? w1 _ d4)).trans d4))
          all_goals
            have HA := Lib.hid hA
            have HS1 := Lib.hid hs1
            have HB1 := Lib.hid hb1
            clear hA hs1 hb1 d4 d4z d5 d6 d6b d6z
            go_wp2_with fail
            go_roundw
            case rel =>
              have hd := (Below.refl wr.heap.size wr).drew.trans HB1.out
              have hsw := hd.size
              have hown := HGR.out.own.lt
              have x0 := (hd.block _ (Array.getElem?_eq_some_iff.1 HX0.out).1).trans HX0.out
              have x1 := (hd.block _ (Array.getElem?_eq_some_iff.1 HX1.out).1).trans HX1.out
              have x0' := (HA.out.kept w.heap.size (Array.getElem?_eq_some_iff.1 x0).1 (fun e => by have := (hown _ e).1; omega)).1.trans x0
              have x1' := (HA.out.kept (w.heap.size + 1) (Array.getElem?_eq_some_iff.1 x1).1 (fun e => by have := (hown _ e).1; omega)).1.trans x1
              refine ⟨k + 1, es ++ [(ts[k].erase, .slice p1 ts[k].erase.args.length c1)], .slice (some ⟨g2, 0, none⟩) (es.length + 1) cap2, by omega, by go_num, ?_, ?_, ?_, ?_, ?_, ?_, ?_⟩
              · rw [List.map_append, HES.out, List.take_add_one, List.getElem?_eq_getElem hlk, List.map_append]
                rfl
              · refine ((HG.out w1 HB1.out).app HA.out (HS1.out.mono fun z hz _ => ⟨?_, fun e => ?_⟩)).set _ _ _ (by omega)
                · have : wr.heap.size ≤ z := hz
                  omega
                · have h1 : wr.heap.size ≤ z := hz
                  have h2 := (hown _ e).2
                  omega
              · exact (Below.heap_setCell _ _ _ _ (by show w.heap.size ≠ w.heap.size + 1 + 1; omega)).trans x0'
              · exact (Below.heap_setCell _ _ _ _ (by show w.heap.size + 1 ≠ w.heap.size + 1 + 1; omega)).trans x1'
              · rw [Go.Joins.block_setCell (HKB.out _ HB1.out _ _ _ _ _ HA.out) _]
                rfl
              · exact (HBR.out.trans ((hd.mono HBR.out.size).trans (HA.out.below.mono (by omega)))).setCell (p := ⟨w.heap.size + 1 + 1, 1, none⟩) (by show w.heap.size ≤ w.heap.size + 1 + 1; omega) _
              · have := HA.out.size
                simp [World.setCell]
                omega
            case measure => simp [intOf]; omega
        · obtain rfl : k = ts.length := by omega
          have hT := HGR.out.all
          rw [HES.out, List.take_length] at hT
          obtain ⟨pv, cv, hv⟩ := hT.form
          rw [hv] at d3 hT
          rw [List.length_map] at d3 hT
          have HT := Lib.hid hT
          clear hT hv HES HGR HX2
          go_wp2_with fail
          refine bodyPost_ret (v := .agg #[.int .i64 q, .slice pv ts.length cv]) ?_ rfl ?_
          · rw [results_cell1 rfl]
            go_simp
          · have hst : ∀ F : Nat → Prop, ¬ F (w.heap.size + 1) → Stays F wr ((wr.setCell ⟨w.heap.size + 1, 0, none⟩ (.int .i64 q)).setCell ⟨w.heap.size + 1, 1, none⟩ (.slice pv ts.length cv)) := fun F hF => (setCell_stays _ _ _ _ F hF).trans (setCell_stays _ _ _ _ F hF)
            refine ⟨_, rfl, ⟨_, rfl, (HT.out.stays (hst _ (by omega))).mono (fun b hb _ => by omega)⟩, (HBR.out.setCell (p := ⟨w.heap.size + 1, 0, none⟩) (by show w.heap.size ≤ w.heap.size + 1; omega) _).setCell (p := ⟨w.heap.size + 1, 1, none⟩) (by show w.heap.size ≤ w.heap.size + 1; omega) _⟩
end Go.Proofs.Ytjobmgbchpoheaa

