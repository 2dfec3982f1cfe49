/-
  An argument that is a type, opened: the tree that it reads as.
-/
import Derived.Test.YteoeefmdfalnjaaTyInd
import Derived.Lib.SmallJoins
namespace Go.Proofs.Yteoeefmdfalnjaa
open Go Go.ChangeShapes Go.WideShapes Go.RowKit

theorem cells_ty : Try.prog.cellsOf 35 = 2 := by kernel_rfl
theorem cells_str : Try.prog.cellsOf 9 = 1 := by kernel_rfl
theorem cells_int : Try.prog.cellsOf 3 = 1 := by kernel_rfl
theorem cells_sl : Try.prog.cellsOf 33 = 1 := by kernel_rfl

section
variable {H : Type} {enc : TypeId × Value → H} {w : World} {spare : Nat → Bool} {held : Bool}

theorem cell_of_cells2 {a : Addr} {cs : List Value} {base i : Nat} (h : w.cells? base (a.add (i * 2)) 2 = some cs) : ∃ u v, cs = [u, v] ∧ w.cell? (a.add (i * 2)) = some u ∧ w.cell? (a.add (i * 2 + 1)) = some v := by
  unfold World.cells? at h
  split at h
  · have e : (List.range 2) = [0, 1] := rfl
    rw [e] at h
    simp only [List.mapM_cons, List.mapM_nil, Option.bind_eq_bind, Option.bind_eq_some_iff, Option.pure_def, Option.some.injEq] at h
    obtain ⟨u, hu, l, ⟨v, hv, l', rfl, rfl⟩, rfl⟩ := h
    rw [Go.Deep.add_add] at hu hv
    exact ⟨u, v, rfl, hu, hv⟩
  · cases h

set_option maxRecDepth 100000 in
/-- What a type's two cells read as; what a slice of types reads as. -/
theorem open_ty : ∀ (fuel : Nat), (∀ (cs : List Value) (x : DataW H × List MemPlace), DataW.trod enc Try.prog w 0 spare held fuel 35 cs = some x → ∃ (k : Int) (s : Value) (ts : List Ty), cs = [.int .i64 k, s] ∧ TS w (fun _ => True) ts s) ∧
    (∀ (cs : List Value) (x : DataW H × List MemPlace), DataW.trod enc Try.prog w 0 spare held fuel 33 cs = some x → ∃ (s : Value) (ts : List Ty), cs = [s] ∧ TS w (fun _ => True) ts s) := by
  intro fuel
  induction fuel using Nat.strongRecOn with
  | _ fuel IH =>
    constructor
    · intro cs x h
      obtain ⟨xs, n, hn, _, hl, hlen, hf⟩ := DataW.trod_struct Try.underlying35 h
      rw [cells_ty] at hl
      have g0 : DataW.trod enc Try.prog w 0 spare held n 3 ((cs.drop 0).take (Try.prog.cellsOf 3)) = xs[0]? := hf 0 _ rfl
      have g1 : DataW.trod enc Try.prog w 0 spare held n 33 ((cs.drop 1).take (Try.prog.cellsOf 33)) = xs[1]? := hf 1 _ rfl
      rw [cells_int] at g0
      rw [cells_sl] at g1
      match cs, hl, xs, hlen with
      | [c0, c1], _, [y0, y1], _ =>
        obtain ⟨k, hk, _, _⟩ := DataW.trod_int Try.underlying3 g0
        obtain ⟨s, ts, hs, ht⟩ := (IH n (by omega)).2 _ _ g1
        simp at hk hs
        subst hk hs
        exact ⟨k, _, ts, rfl, ht⟩
    · intro cs x h
      rcases DataW.trod_slice Try.underlying33 h with ⟨rfl, _⟩ | ⟨a, len, cap, elems, rest, n, hn, rfl, _, _, hl, hm, hlen, hel, _, _⟩
      · exact ⟨_, [], rfl, .nil _ _⟩
      · by_cases h0 : len = 0
        · subst h0
          exact ⟨_, [], rfl, .nil _ _⟩
        rw [cells_ty] at hel
        have each : ∀ i, i < len → ∃ z : Int × Value × List Ty, w.cell? (a.add (i * 2)) = some (.int .i64 z.1) ∧ w.cell? (a.add (i * 2 + 1)) = some z.2.1 ∧ TS w (fun _ => True) z.2.2 z.2.1 := by
          intro i hi
          have hb := hel i hi
          rw [List.getElem?_eq_getElem (by omega), Option.bind_eq_some_iff] at hb
          obtain ⟨cs', hcs, ht⟩ := hb
          obtain ⟨k, s, ts, rfl, hT⟩ := (IH n (by omega)).1 _ _ ht
          obtain ⟨u, v, huv, hu, hv⟩ := cell_of_cells2 hcs
          simp only [List.cons.injEq, and_true] at huv
          obtain ⟨rfl, rfl⟩ := huv
          exact ⟨(k, s, ts), hu, hv, hT⟩
        obtain ⟨f, hf⟩ := Go.Deep.choose_lt (α := Int × Value × List Ty) each
        have hspot : a.spot = none := by simpa [Addr.add] using World.cell?_spot (hf 0 (by omega)).1
        obtain ⟨b, o, sp⟩ := a
        simp only at hspot
        subst hspot
        simp only [Go.WideShapes.add_plain] at hf
        have hb : b < w.heap.size := World.block_lt_of_cell? w _ (hf 0 (by omega)).1
        have hlen2 : ((List.range len).map fun i => Ty.mk (f i).1 (f i).2.2).length = len := by simp
        have at_ : ∀ j x, ((List.range len).map fun i => Ty.mk (f i).1 (f i).2.2)[j]? = some x → j < len ∧ x = Ty.mk (f j).1 (f j).2.2 := by
          intro j x hj
          have hlt := (List.getElem?_eq_some_iff.1 hj).1
          rw [hlen2] at hlt
          simp [hlt] at hj
          exact ⟨hlt, hj.symm⟩
        refine ⟨_, (List.range len).map fun i => Ty.mk (f i).1 (f i).2.2, rfl, ?_⟩
        have key := TS.cons (w := w) (C := fun _ => True) (ts := (List.range len).map fun i => Ty.mk (f i).1 (f i).2.2) (b := b) (o := o) (c := cap) (fun j => (f j).2.1) (by omega) (by omega) (by unfold maxLen at hm; omega) trivial hb
          (fun j x hj => by
            obtain ⟨hlt, rfl⟩ := at_ j x hj
            exact (hf j hlt).1)
          (fun j x hj => by
            obtain ⟨hlt, rfl⟩ := at_ j x hj
            exact (hf j hlt).2.1)
          (fun j x hj => by
            obtain ⟨hlt, rfl⟩ := at_ j x hj
            exact (hf j hlt).2.2)
        rw [hlen2] at key
        exact key
end

set_option maxRecDepth 100000 in
/-- THE ARGUMENT OPENED. -/
theorem open_type {H : Type} {enc : TypeId × Value → H} {W : World} {spare : Nat → Bool} {held : Bool} {r : Reach} {b0 : Nat} {v : Value} {d : DataW H} {p : List MemPlace}
    (hv : Value.okWide Try.prog W r b0 35 v) (h : DataW.Trod enc Try.prog W 0 spare held 35 v d p) : ∃ t : Ty, TT W (fun _ => True) t v := by
  obtain ⟨cs, rfl, hsz⟩ := okWide_struct Try.underlying35 hv
  obtain ⟨fuel, hf⟩ := h
  obtain ⟨k, s, ts, hcs, ht⟩ := (open_ty fuel).1 _ _ hf
  have hcs' : cs = #[.int .i64 k, s] := by
    have : cs.toList = [.int .i64 k, s] := hcs
    exact Array.toList_inj.1 this
  subst hcs'
  exact ⟨.mk k ts, s, rfl, ht⟩
end Go.Proofs.Yteoeefmdfalnjaa

