/-
  The contract of the model's EraseType.
-/
import Derived.Test.YtgeliljanljmmaaEraseI
namespace Go.Proofs.Ytgeliljanljmmaa
open Go Go.RowKit

/-- Types that have been put one behind the other, each with its slice's value. -/
abbrev Got := List (Ty × Value)
def ecells (st : Got) : List Value := st.flatMap fun e => [.int .i64 e.1.kind, e.2]
theorem ecells_length (st : Got) : (ecells st).length = st.length * 2 := by
  induction st with
  | nil => rfl
  | cons e st ih => simp only [ecells, List.flatMap_cons, List.length_append, List.length_cons, List.length_nil] at *; omega
theorem ecells_snoc (st : Got) (e : Ty × Value) : ecells (st ++ [e]) = ecells st ++ [.int .i64 e.1.kind, e.2] := by simp [ecells]
theorem ecells_at (st : Got) (j : Nat) (h : j < st.length) : (ecells st)[j * 2]? = some (.int .i64 st[j].1.kind) ∧ (ecells st)[j * 2 + 1]? = some st[j].2 := by
  induction st generalizing j with
  | nil => simp at h
  | cons e st ih =>
    cases j with
    | zero => simp [ecells]
    | succ j =>
      have := ih j (by simpa using h)
      have e1 : ecells (e :: st) = [.int .i64 e.1.kind, e.2] ++ ecells st := by simp [ecells]
      rw [e1, List.getElem?_append_right (by simp; omega), List.getElem?_append_right (by simp; omega)]
      simp only [List.length_cons, List.length_nil]
      rw [show (j + 1) * 2 - (0 + 1 + 1) = j * 2 by omega, show (j + 1) * 2 + 1 - (0 + 1 + 1) = j * 2 + 1 by omega]
      exact this

/-- A row that grows: what stands in it, each type in blocks from base on that are not the row's. -/
structure Grow (w : World) (base : Nat) (v : Value) (st : Got) : Prop where
  own : w.ownsRow base 26 2 v st.length (ecells st)
  ts : ∀ e ∈ st, TS w (fun z => base ≤ z ∧ v.ownBlock ≠ some z) e.1.args e.2

theorem Grow.start (w : World) (base : Nat) : Grow w base (.slice none 0 0) [] := ⟨World.ownsRow_nil w base _ 2, fun e he => by cases he⟩
theorem Grow.below {w w' : World} {base : Nat} {v : Value} {st : Got} (h : Grow w base v st) (hb : Below w.heap.size w w') : Grow w' base v st := ⟨row_below h.own hb, fun e he => (h.ts e he).keep hb⟩
theorem Grow.app {w w' : World} {base : Nat} {v : Value} {st : Got} {g cap : Nat} {x : Ty} {s : Value} (h : Grow w base v st) (hA : Appd w w' base 26 2 v st.length (ecells st) [.int .i64 x.kind, s] g cap)
    (hx : TS w (fun z => base ≤ z ∧ v.ownBlock ≠ some z) x.args s) : Grow w' base (.slice (some ⟨g, 0, none⟩) (st.length + 1) cap) (st ++ [(x, s)]) := by
  have key : ∀ {ts : List Ty} {s : Value}, TS w (fun z => base ≤ z ∧ v.ownBlock ≠ some z) ts s → TS w' (fun z => base ≤ z ∧ (Value.slice (some ⟨g, 0, none⟩) (st.length + 1) cap).ownBlock ≠ some z) ts s := fun h1 =>
    (h1.mono (C' := fun z => base ≤ z ∧ v.ownBlock ≠ some z ∧ z < w.heap.size) (fun b hb hl => ⟨hb.1, hb.2, hl⟩)).stays ⟨hA.size, fun b hb hl => (hA.kept b hl hb.2.1).1⟩ |>.mono (fun b hb _ => ⟨hb.1, fun e => (hA.kept b hb.2.2 hb.2.1).2 (by simpa [Value.ownBlock] using e)⟩)
  refine ⟨?_, fun e he => ?_⟩
  · rw [List.length_append, ecells_snoc]
    exact hA.own
  · rcases List.mem_append.1 he with he | he
    · exact key (h.ts e he)
    · simp only [List.mem_singleton] at he
      subst he
      exact key hx
theorem Grow.set {w : World} {base : Nat} {v : Value} {st : Got} (h : Grow w base v st) (b o : Nat) (x : Value) (hb : b < base) : Grow (w.setCell ⟨b, o, none⟩ x) base v st := by
  refine ⟨⟨h.own.1, ?_⟩, fun e he => (h.ts e he).stays (setCell_stays _ _ _ _ _ (by omega))⟩
  rcases h.own.2 with h0 | ⟨g, cap, cur, rfl, hg, hblk, r⟩
  · exact Or.inl h0
  · exact Or.inr ⟨g, cap, cur, rfl, hg, (Below.heap_setCell _ _ _ _ (by show g ≠ b; omega)).trans hblk, r⟩
theorem Grow.all {w : World} {base : Nat} {v : Value} {st : Got} (h : Grow w base v st) : TS w (fun z => base ≤ z) (st.map (·.1)) v := by
  rcases h.own.2 with ⟨rfl, h0⟩ | ⟨g, cap, cur, rfl, hg, hblk, h1, h2, h3, h4⟩
  · obtain rfl := List.eq_nil_of_length_eq_zero h0
    exact .nil _ _
  · by_cases hz : st.length = 0
    · obtain rfl := List.eq_nil_of_length_eq_zero hz
      exact .nil _ _
    · have hlt := (Array.getElem?_eq_some_iff.1 hblk).1
      have hl : (st.map (·.1)).length = st.length := List.length_map _
      have at_ : ∀ j x, (st.map (·.1))[j]? = some x → ∃ hj : j < st.length, x = st[j].1 := fun j x hj => by
        rw [List.getElem?_map, Option.map_eq_some_iff] at hj
        obtain ⟨e, he, rfl⟩ := hj
        obtain ⟨hj, rfl⟩ := List.getElem?_eq_some_iff.1 he
        exact ⟨hj, rfl⟩
      have key := TS.cons (w := w) (C := fun z => base ≤ z) (ts := st.map (·.1)) (b := g) (o := 0) (c := cap) (fun j => (st[j]?.getD (.mk 0 [], .nilIface)).2) (by omega) (by omega) (by unfold maxLen at h2; omega) hg hlt
        (fun j x hj => by
          obtain ⟨hj', rfl⟩ := at_ j x hj
          rw [Nat.zero_add, h.own.cellAt (j * 2) (by omega), (ecells_at st j hj').1])
        (fun j x hj => by
          obtain ⟨hj', rfl⟩ := at_ j x hj
          rw [Nat.zero_add, h.own.cellAt (j * 2 + 1) (by omega), (ecells_at st j hj').2, List.getElem?_eq_getElem hj']
          rfl)
        (fun j x hj => by
          obtain ⟨hj', rfl⟩ := at_ j x hj
          rw [List.getElem?_eq_getElem hj']
          exact (h.ts _ (List.getElem_mem hj')).mono (fun b hb _ => hb.1))
      rw [hl] at key
      exact key

/-- A new type, in blocks from where the heap ended. -/
def NewR (t : Ty) (w : World) (e : Ending) (w' : World) : Prop := ∃ v, e = .returned v ∧ TT w' (fun z => w.heap.size ≤ z) t v ∧ Below w.heap.size w w'

theorem keep3 {W w1 : World} {p1 p2 p3 : Addr} {v1 v2 v3 : Value} (hb1 : Below W.heap.size W w1) (h : W.cell? p1 = some v1 ∧ W.cell? p2 = some v2 ∧ W.cell? p3 = some v3) :
    w1.cell? p1 = some v1 ∧ w1.cell? p2 = some v2 ∧ w1.cell? p3 = some v3 :=
  ⟨(hb1.cell (World.block_lt_of_cell? W _ h.1)).trans h.1, (hb1.cell (World.block_lt_of_cell? W _ h.2.1)).trans h.2.1, (hb1.cell (World.block_lt_of_cell? W _ h.2.2)).trans h.2.2⟩

end Go.Proofs.Ytgeliljanljmmaa

