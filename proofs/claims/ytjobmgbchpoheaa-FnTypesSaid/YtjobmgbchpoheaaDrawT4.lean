/-
  The contract of the draws' l3Bent: a drawn type, now and then bent at one place; it has at most 127 nodes.
-/
import Derived.Test.YtjobmgbchpoheaaDrawT3
namespace Go.Proofs.Ytjobmgbchpoheaa
open Go Go.RowKit

/-- THE DRAW OF A VALID TYPE of at most a depth. -/
theorem draw_any : ∀ k : Nat, 1 ≤ k → k ≤ 4 → ∀ (b : Nat) (w : World), Cur w b → Calls Try.prog 51 #[.pointer (some ⟨b, 0, none⟩), .int .i64 k] w (DrawT k b w)
  | 0, h, _ => by omega
  | k + 1, _, h4 => fun b w hc => draw_step k ((k + 1 : Nat) : Int) (by simp) (by omega) (fun h1 b W hW => by
      have := draw_any k h1 (by omega) b W hW
      rwa [show (((k + 1 : Nat) : Int) - 1) = (k : Int) by omega]) b w hc

/-- While a drawn type is bent: what stands ready, the box bx that holds it. -/
structure Box (w : World) (b bx : Nat) (W : World) (t : Ty) (s : Value) : Prop where
  rdy : Rdy w b W
  box : W.heap[bx]? = some (.cells #[.int .i64 t.kind, s] 26 (0, 0))
  ts : TS W (fun z => w.heap.size + 1 ≤ z ∧ z ≠ bx) t.args s
  lt : w.heap.size + 1 ≤ bx
theorem Box.bxlt {w W : World} {b bx : Nat} {t : Ty} {s : Value} (h : Box w b bx W t s) : bx < W.heap.size := (Array.getElem?_eq_some_iff.1 h.box).1
theorem Box.step {w W W' : World} {b bx : Nat} {t : Ty} {s : Value} (h : Box w b bx W t s) (hbw : b < w.heap.size) (hc : Cur W' b) (hg : W.grownBy W' (some b)) : Box w b bx W' t s :=
  have hl := h.lt
  ⟨h.rdy.step hbw hc hg, (hg.block _ h.bxlt (fun e => by have := Option.some.inj e; omega)).trans h.box, h.ts.stays ⟨hg.size, fun z hz hl => hg.block z hl (fun e => by have := Option.some.inj e; omega)⟩, h.lt⟩
theorem Box.below {w W W' : World} {b bx : Nat} {t : Ty} {s : Value} (h : Box w b bx W t s) (hb : Below W.heap.size W W') : Box w b bx W' t s :=
  ⟨h.rdy.below hb, (hb.block _ h.bxlt).trans h.box, h.ts.keep hb, h.lt⟩
theorem Rdy.set {w W : World} {b bx i : Nat} {v : Value} (h : Rdy w b W) (hbw : b < w.heap.size) (hlt : w.heap.size < bx) : Rdy w b (W.setCell ⟨bx, i, none⟩ v) := by
  have hb : Below bx W (W.setCell ⟨bx, i, none⟩ v) := (Below.refl _ W).setCell (p := ⟨bx, i, none⟩) (Nat.le_refl _) _
  exact ⟨h.cur.belowAt (by omega) hb, grown_below h.grown (by omega) hb, (hb.block _ hlt).trans h.r⟩
theorem Box.set {w W : World} {b bx : Nat} {t u : Ty} {s s' : Value} (h : Box w b bx W t s) (hbw : b < w.heap.size) (hu : TS W (fun z => w.heap.size + 1 ≤ z ∧ z ≠ bx) u.args s') :
    Box w b bx ((W.setCell ⟨bx, 0, none⟩ (.int .i64 u.kind)).setCell ⟨bx, 1, none⟩ s') u s' := by
  have hl := h.lt
  refine ⟨(h.rdy.set hbw (by omega)).set hbw (by omega), ?_, hu.stays ((setCell_stays _ _ _ _ _ (by omega)).trans (setCell_stays _ _ _ _ _ (by omega))), h.lt⟩
  rw [Go.Joins.block_setCell (Go.Joins.block_setCell h.box _) _]
  rfl
theorem Box.setKind {w W : World} {b bx : Nat} {t : Ty} {s : Value} (h : Box w b bx W t s) (hbw : b < w.heap.size) (y : Int) : Box w b bx (W.setCell ⟨bx, 0, none⟩ (.int .i64 y)) (.mk y t.args) s := by
  have hl := h.lt
  refine ⟨h.rdy.set hbw (by omega), ?_, h.ts.stays (setCell_stays _ _ _ _ _ (by omega)), h.lt⟩
  rw [Go.Joins.block_setCell h.box _]
  rfl
/-- A new type out of a call, for the box. -/
theorem NewG.ts {u : Ty} {w W W' : World} {bx : Nat} {v : Value} (h : NewG u W.heap.size W' v) (h1 : w.heap.size + 1 ≤ W.heap.size) (h2 : bx < W.heap.size) : ∃ s, v = .agg #[.int .i64 u.kind, s] ∧ TS W' (fun z => w.heap.size + 1 ≤ z ∧ z ≠ bx) u.args s := by
  obtain ⟨s, rfl, hs⟩ := h.tt
  exact ⟨s, rfl, hs.mono (fun z hz _ => by have : W.heap.size ≤ z := hz; exact ⟨by omega, by omega⟩)⟩
theorem Grow.stays {w w' : World} {base : Nat} {v : Value} {st : Got} (h : Grow w base v st) (hst : Stays (fun z => base ≤ z) w w') : Grow w' base v st := by
  refine ⟨⟨h.own.1, ?_⟩, fun e he => ((h.ts e he).stays (hst.mono (fun z hz => hz.1)))⟩
  rcases h.own.2 with h0 | ⟨g, cap, cur, rfl, hbg, hblk, r⟩
  · exact Or.inl h0
  · exact Or.inr ⟨g, cap, cur, rfl, hbg, (hst.2 g hbg (Array.getElem?_eq_some_iff.1 hblk).1).trans hblk, r⟩
theorem Box.tt {w W : World} {b bx : Nat} {t : Ty} {s : Value} (h : Box w b bx W t s) : TT W (fun z => w.heap.size + 1 ≤ z ∧ z ≠ bx) t (.agg #[.int .i64 t.kind, s]) := ⟨s, rfl, h.ts⟩
/-- What the walk wants to know of the two blocks. -/
theorem Box.facts {w W : World} {b bx : Nat} {t : Ty} {s : Value} (h : Box w b bx W t s) :
    (W.cell? ⟨bx, 0, none⟩ = some (.int .i64 t.kind) ∧ W.cell? ⟨bx, 1, none⟩ = some s ∧ ∀ i, W.frozen? ⟨bx, i, none⟩ = false) ∧
    W.cell? ⟨w.heap.size, 0, none⟩ = some (.int .i64 0) ∧ W.cell? ⟨w.heap.size, 1, none⟩ = some (.slice none 0 0) ∧ ∀ i, W.frozen? ⟨w.heap.size, i, none⟩ = false :=
  ⟨⟨cell_of_blk h.box 0, cell_of_blk h.box 1, unfrozen_of_blk h.box⟩, cell_of_blk h.rdy.r 0, cell_of_blk h.rdy.r 1, unfrozen_of_blk h.rdy.r⟩

/-- A call that draws a type, bent or not. -/
def BentT (b : Nat) (w : World) (e : Ending) (w' : World) : Prop := ∃ v t, e = .returned v ∧ t.nodes ≤ 200 ∧ TT w' (fun z => w.heap.size ≤ z) t v ∧ Cur w' b ∧ w.grownBy w' (some b)
theorem bent_fin {w W : World} {b bx : Nat} {t : Ty} {s : Value} (h : Box w b bx W t s) (hbw : b < w.heap.size) (hn : t.nodes ≤ 200) :
    BentT b w (.returned (.agg #[.int .i64 t.kind, s])) ((W.setCell ⟨w.heap.size, 0, none⟩ (.int .i64 t.kind)).setCell ⟨w.heap.size, 1, none⟩ s) := by
  have hbl : Below w.heap.size W ((W.setCell ⟨w.heap.size, 0, none⟩ (.int .i64 t.kind)).setCell ⟨w.heap.size, 1, none⟩ s) := ((Below.refl _ W).setCell (p := ⟨w.heap.size, 0, none⟩) (Nat.le_refl _) _).setCell (p := ⟨w.heap.size, 1, none⟩) (Nat.le_refl _) _
  exact ⟨_, t, rfl, hn, ⟨s, rfl, (h.ts.stays ((setCell_stays _ _ _ _ _ (by omega)).trans (setCell_stays _ _ _ _ _ (by omega)))).mono (fun z hz _ => by omega)⟩, h.rdy.cur.belowAt hbw hbl, grown_below h.rdy.grown (Nat.le_refl _) hbl⟩

theorem ts_of_row {w : World} {C : Nat → Prop} {base : Nat} {v : Value} {st : Got} (h : w.ownsRow base 26 2 v st.length (ecells st)) (hC : ∀ g, v.ownBlock = some g → C g) (hts : ∀ e ∈ st, TS w C e.1.args e.2) : TS w C (st.map (·.1)) v := by
  rcases h.2 with ⟨rfl, h0⟩ | ⟨g, cap, cur, rfl, hg, hblk, h1, h2, h3, h4⟩
  · obtain rfl := List.eq_nil_of_length_eq_zero h0
    exact .nil _ _
  · by_cases hz : st.length = 0
    · obtain rfl := List.eq_nil_of_length_eq_zero hz
      exact .nil _ _
    · have hlt := (Array.getElem?_eq_some_iff.1 hblk).1
      have hl : (st.map (·.1)).length = st.length := List.length_map _
      have at_ : ∀ j x, (st.map (·.1))[j]? = some x → ∃ hj : j < st.length, x = st[j].1 := fun j x hj => by
        rw [List.getElem?_map, Option.map_eq_some_iff] at hj
        obtain ⟨e, he, rfl⟩ := hj
        obtain ⟨hj, rfl⟩ := List.getElem?_eq_some_iff.1 he
        exact ⟨hj, rfl⟩
      have key := TS.cons (w := w) (C := C) (ts := st.map (·.1)) (b := g) (o := 0) (c := cap) (fun j => (st[j]?.getD (.mk 0 [], .nilIface)).2) (by omega) (by omega) (by unfold maxLen at h2; omega) (hC g rfl) hlt
        (fun j x hj => by
          obtain ⟨hj', rfl⟩ := at_ j x hj
          rw [Nat.zero_add, h.cellAt (j * 2) (by omega), (ecells_at st j hj').1])
        (fun j x hj => by
          obtain ⟨hj', rfl⟩ := at_ j x hj
          rw [Nat.zero_add, h.cellAt (j * 2 + 1) (by omega), (ecells_at st j hj').2, List.getElem?_eq_getElem hj']
          rfl)
        (fun j x hj => by
          obtain ⟨hj', rfl⟩ := at_ j x hj
          rw [List.getElem?_eq_getElem hj']
          exact hts _ (List.getElem_mem hj'))
      rw [hl] at key
      exact key

/-- One part put behind a drawn type's parts, and the box's second cell turned. -/
theorem Grow.app_at {w1 W w' : World} {base bx g cap : Nat} {v s u : Value} {st : Got} {x : Ty} (h : Grow w1 base v st) (hbx : bx = w1.heap.size) (hs : Stays (fun z => base ≤ z) w1 W) (hlt : bx < W.heap.size)
    (hA : Appd W w' base 26 2 v st.length (ecells st) [.int .i64 x.kind, s] g cap) (hx : x.args = []) (hsv : s = .slice none 0 0) :
    TS (w'.setCell ⟨bx, 1, none⟩ u) (fun z => base ≤ z ∧ z ≠ bx) (st.map (·.1) ++ [x]) (.slice (some ⟨g, 0, none⟩) (st.length + 1) cap) := by
  have hgb : g ≠ bx := (hA.kept bx hlt (fun e => by have := (h.own.lt _ e).2; omega)).2
  have hst : Stays (fun z => base ≤ z ∧ v.ownBlock ≠ some z ∧ z < bx) w1 (w'.setCell ⟨bx, 1, none⟩ u) := by
    refine ⟨Nat.le_trans hs.1 (Nat.le_trans hA.size (by simp [World.setCell])), fun z hz hl => ?_⟩
    rw [Below.heap_setCell _ _ _ _ (by show z ≠ bx; omega)]
    exact (hA.kept z (Nat.lt_of_lt_of_le hl hs.1) hz.2.1).1.trans (hs.2 z hz.1 hl)
  have key := ts_of_row (w := w'.setCell ⟨bx, 1, none⟩ u) (C := fun z => base ≤ z ∧ z ≠ bx) (base := base) (v := .slice (some ⟨g, 0, none⟩) (st.length + 1) cap) (st := st ++ [(x, s)]) ?_ ?_ ?_
  · rw [List.map_append] at key
    exact key
  · rw [List.length_append, ecells_snoc]
    refine ⟨hA.own.1, ?_⟩
    rcases hA.own.2 with h0 | ⟨g', cap', cur, hv, hg, hblk, r⟩
    · exact Or.inl h0
    · have : g = g' := by cases hv; rfl
      subst this
      exact Or.inr ⟨g, cap', cur, hv, hg, (Below.heap_setCell _ _ _ _ hgb).trans hblk, r⟩
  · intro g' hg'
    have : g' = g := by simp [Value.ownBlock] at hg'; omega
    subst this
    exact ⟨(hA.own.lt g' hg').1, hgb⟩
  · intro e he
    rcases List.mem_append.1 he with he | he
    · exact (((h.ts e he).mono (C' := fun z => base ≤ z ∧ v.ownBlock ≠ some z ∧ z < bx) (fun z hz hl => ⟨hz.1, hz.2, by omega⟩)).stays hst).mono (fun z hz _ => ⟨hz.1, by omega⟩)
    · simp only [List.mem_singleton] at he
      subst he
      show TS _ _ x.args s
      rw [hx, hsv]
      exact .nil _ _
theorem box_app {w w1 W w' : World} {b bx g cap : Nat} {t : Ty} {v : Value} {st : Got} (h : Box w b bx W t v) (hbw : b < w.heap.size) (hG : Grow w1 (w.heap.size + 1) v st) (hbx : bx = w1.heap.size) (hs : Stays (fun z => w.heap.size + 1 ≤ z) w1 W)
    (hA : Appd W w' (w.heap.size + 1) 26 2 v st.length (ecells st) [.int .i64 1, .slice none 0 0] g cap) (hes : st.map (·.1) = t.args) :
    Box w b bx (w'.setCell ⟨bx, 1, none⟩ (.slice (some ⟨g, 0, none⟩) (st.length + 1) cap)) (.mk t.kind (t.args ++ [.mk 1 []])) (.slice (some ⟨g, 0, none⟩) (st.length + 1) cap) := by
  have hl := h.lt
  have hblk := (hA.kept bx h.bxlt (fun e => by have := (hG.own.lt _ e).2; omega)).1.trans h.box
  have hr : Rdy w b w' := ⟨h.rdy.cur.belowAt (by omega) hA.below, grown_below h.rdy.grown (by omega) hA.below, (hA.below.block _ (by omega)).trans h.rdy.r⟩
  have ht := hG.app_at (x := .mk 1 []) (u := .slice (some ⟨g, 0, none⟩) (st.length + 1) cap) hbx hs h.bxlt hA rfl rfl
  rw [hes] at ht
  refine ⟨hr.set hbw (by omega), ?_, ht, hl⟩
  rw [Go.Joins.block_setCell hblk _]
  rfl
end Go.Proofs.Ytjobmgbchpoheaa

