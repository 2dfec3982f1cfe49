/-
  The contract of the program's EraseType.
-/
import Derived.Test.YtgeliljanljmmaaErase
import Derived.Test.YtgeliljanljmmaaEqI
import Derived.Test.YtgeliljanljmmaaTyCopy
import Derived.Lib.SmallJoins
namespace Go.Proofs.Ytgeliljanljmmaa
open Go Go.RowKit

/-- What waits, the next one last: a place with its slice's value. -/
abbrev Jobs := List (Job × Value)
def tcells (st : Jobs) : List Value := st.flatMap fun e => [.int .i64 e.1.x.kind, e.2, .pointer (some ⟨e.1.b, e.1.o, none⟩)]
theorem tcells_length (st : Jobs) : (tcells st).length = st.length * 3 := by
  induction st with
  | nil => rfl
  | cons e st ih => simp only [tcells, List.flatMap_cons, List.length_append, List.length_cons, List.length_nil] at *; omega
theorem tcells_snoc (st : Jobs) (e : Job × Value) : tcells (st ++ [e]) = tcells st ++ [.int .i64 e.1.x.kind, e.2, .pointer (some ⟨e.1.b, e.1.o, none⟩)] := by simp [tcells]
theorem tcells_take (st : Jobs) (e : Job × Value) : (tcells (st ++ [e])).take (st.length * 3) = tcells st := by
  rw [tcells_snoc, ← tcells_length, List.take_left]
theorem tcells_last (st : Jobs) (e : Job × Value) : (tcells (st ++ [e]))[st.length * 3]? = some (.int .i64 e.1.x.kind) ∧ (tcells (st ++ [e]))[st.length * 3 + 1]? = some e.2 ∧ (tcells (st ++ [e]))[st.length * 3 + 2]? = some (.pointer (some ⟨e.1.b, e.1.o, none⟩)) := by
  have h := tcells_length st
  rw [tcells_snoc]
  refine ⟨?_, ?_, ?_⟩ <;> (rw [List.getElem?_append_right (by omega), h]; simp)
def tload (st : Jobs) : Nat := (st.map fun e => e.1.x.nodes).sum
theorem tload_snoc (st : Jobs) (e : Job × Value) : tload (st ++ [e]) = tload st + e.1.x.nodes := by simp [tload]
theorem tload_ge (st : Jobs) : st.length ≤ tload st := by
  induction st with
  | nil => simp [tload]
  | cons e st ih =>
    have := e.1.x.nodes_eq
    simp only [tload, List.map_cons, List.sum_cons, List.length_cons] at *
    omega
theorem OS.bound {w : World} {F : Nat → Prop} {ts : List Ty} {v : Value} (h : OS w ts v F) : OS w ts v (fun b => F b ∧ b < w.heap.size) := by
  induction h with
  | none F => exact .none _
  | row K S G hrow hm hF hk hr hG hd ih =>
    exact .row K S (fun j b => G j b ∧ b < w.heap.size) hrow hm ⟨hF, hrow.lt⟩ hk ih (fun j x hj hx => ⟨⟨(hG j x hj hx.1).1, hx.2⟩, (hG j x hj hx.1).2⟩) (fun i j x hi hj hij h1 h2 => hd i j x hi hj hij h1.1 h2.1)

theorem loop_world3 (w : World) (A B A' : Array Value) (tA tB tA' : TypeId) : ∃ wl : World, ((w.alloc (.cells A tA)).alloc (.cells B tB)).alloc (.cells A' tA') = wl ∧ wl.heap.size = w.heap.size + 1 + 1 + 1 ∧ Below w.heap.size w wl ∧
    wl.heap[w.heap.size]? = some (.cells A tA (0, 0)) ∧ wl.heap[w.heap.size + 1]? = some (.cells B tB (0, 0)) ∧ wl.heap[w.heap.size + 1 + 1]? = some (.cells A' tA' (0, 0)) := by
  have s1 : (w.alloc (.cells A tA)).heap.size = w.heap.size + 1 := by simp
  have s2 : ((w.alloc (.cells A tA)).alloc (.cells B tB)).heap.size = w.heap.size + 1 + 1 := by simp
  refine ⟨_, rfl, by simp, (((Below.refl _ w).alloc (Nat.le_refl _) _).alloc (by simp) _).alloc (by simp; omega) _, ?_, ?_, ?_⟩
  · rw [Below.heap_alloc _ _ _ (by simp; omega), Below.heap_alloc _ _ _ (by simp)]
    exact blk_new _ _
  · rw [Below.heap_alloc _ _ _ (by simp), ← s1]
    exact blk_new _ _
  · rw [← s2]
    exact blk_new _ _

theorem cell_setCell_ne {w : World} {b o c q : Nat} {v : Value} (h : ¬ (c = b ∧ q = o)) : (w.setCell ⟨b, o, none⟩ v).cell? ⟨c, q, none⟩ = w.cell? ⟨c, q, none⟩ := by
  by_cases hc : c = b
  · subst hc
    have hq : q ≠ o := fun e => h ⟨rfl, e⟩
    unfold World.cell?
    simp only [World.setCell, Array.getElem?_modify]
    cases hw : w.heap[c]? with
    | none => simp
    | some ob =>
      simp only [if_true, Option.map_some]
      cases ob <;> simp [Array.getElem?_setIfInBounds_ne (Ne.symm hq)]
  · exact World.cell?_of_block (Below.heap_setCell _ _ _ _ hc)

theorem row_ne {w : World} {base : Nat} {e e' : TypeId} {size n g cap b : Nat} {xs : List Value} {cs : Array Value} {fr : Nat × Nat} (h : w.ownsRow base e size (.slice (some ⟨g, 0, none⟩) n cap) n xs) (hb : w.heap[b]? = some (.cells cs e' fr)) (hne : e' ≠ e) : g ≠ b := by
  rintro rfl
  rcases h.2 with h0 | ⟨g', cap', cur, hv, hg, hblk, _⟩
  · exact absurd h0.1 (by simp)
  · simp only [Value.slice.injEq, Option.some.injEq, Addr.mk.injEq, true_and, and_true] at hv
    obtain ⟨rfl, rfl⟩ := hv
    rw [hb] at hblk
    simp only [Option.some.injEq, Obj.cells.injEq] at hblk
    exact hne hblk.2.1

end Go.Proofs.Ytgeliljanljmmaa

