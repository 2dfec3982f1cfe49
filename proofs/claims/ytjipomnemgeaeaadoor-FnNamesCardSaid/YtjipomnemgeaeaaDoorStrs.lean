/-
  Slices of strings, of no program: what a slice holds, and that it holds it in every later world; a slice that a call made itself.
-/
import Derived.Test.YtjipomnemgeaeaaDoorKit
import Derived.OwnWalk
import Derived.Below
namespace Go.Proofs.YtjipomnemgeaeaaDoor
open Go Go.RowKit

/-- The strings' bytes. -/
def bs (xs : List ByteArray) : List (List UInt8) := xs.map (·.data.toList)
theorem bs_inj {a b : List ByteArray} (h : bs a = bs b) : a = b := by
  induction a generalizing b with
  | nil =>
    cases b with
    | nil => rfl
    | cons y b => simp [bs] at h
  | cons x a ih =>
    cases b with
    | nil => simp [bs] at h
    | cons y b =>
      simp only [bs, List.map_cons, List.cons.injEq] at h
      rw [ih h.2]
      obtain ⟨⟨x⟩⟩ := x
      obtain ⟨⟨y⟩⟩ := y
      rw [show x = y from h.1]

/-- The slice v holds just the strings xs. -/
def SS (w : World) (v : Value) (xs : List ByteArray) : Prop :=
  (xs = [] ∧ ∃ a c, v = .slice a 0 c) ∨
  (1 ≤ xs.length ∧ ∃ b o c, v = .slice (some ⟨b, o, none⟩) xs.length c ∧ xs.length ≤ c ∧ b < w.heap.size ∧ ∀ j x, xs[j]? = some x → w.cell? ⟨b, o + j, none⟩ = some (.string x))

theorem SS.below {w w' : World} {v : Value} {xs : List ByteArray} (h : SS w v xs) (hb : Below w.heap.size w w') : SS w' v xs := by
  rcases h with h | ⟨h1, b, o, c, rfl, hc, hlt, hcell⟩
  · exact Or.inl h
  · exact Or.inr ⟨h1, b, o, c, rfl, hc, Nat.lt_of_lt_of_le hlt hb.size, fun j x hj => (hb.cell (p := ⟨b, o + j, none⟩) hlt).trans (hcell j x hj)⟩

/-- A row of the call's own stands in every later world. -/
theorem ownsRow_below {w w' : World} {base : Nat} {e : TypeId} {size n : Nat} {v : Value} {xs : List Value} (h : w.ownsRow base e size v n xs) (hb : Below w.heap.size w w') : w'.ownsRow base e size v n xs := by
  refine ⟨h.1, ?_⟩
  rcases h.2 with h0 | ⟨g, cap, cur, rfl, hg, hblk, h1, h2, h3, h4⟩
  · exact Or.inl h0
  · refine Or.inr ⟨g, cap, cur, rfl, hg, ?_, h1, h2, h3, h4⟩
    have hlt : g < w.heap.size := by
      rcases Nat.lt_or_ge g w.heap.size with h' | h'
      · exact h'
      · rw [Array.getElem?_eq_none h'] at hblk; cases hblk
    rw [hb.block g hlt]; exact hblk

theorem ownsRow_mono {w : World} {base base' : Nat} {e : TypeId} {size n : Nat} {v : Value} {xs : List Value} (h : w.ownsRow base e size v n xs) (hb : base' ≤ base) : w.ownsRow base' e size v n xs := by
  refine ⟨h.1, ?_⟩
  rcases h.2 with h0 | ⟨g, cap, cur, rfl, hg, h'⟩
  · exact Or.inl h0
  · exact Or.inr ⟨g, cap, cur, rfl, Nat.le_trans hb hg, h'⟩

/-- A row of the call's own, as a slice of strings. -/
theorem SS_of_row {w : World} {base : Nat} {e : TypeId} {n : Nat} {v : Value} {xs : List ByteArray} (h : w.ownsRow base e 1 v n (xs.map Value.string)) : SS w v xs := by
  have hn : xs.length = n := by simpa using h.1
  rcases h.2 with ⟨rfl, h0⟩ | ⟨g, cap, cur, rfl, hg, hblk, h1, h2, h3, h4⟩
  · exact Or.inl ⟨List.eq_nil_of_length_eq_zero (by omega), _, _, rfl⟩
  · by_cases hz : n = 0
    · subst hz
      exact Or.inl ⟨List.eq_nil_of_length_eq_zero hn, _, _, rfl⟩
    · have hlt : g < w.heap.size := by
        rcases Nat.lt_or_ge g w.heap.size with h' | h'
        · exact h'
        · rw [Array.getElem?_eq_none h'] at hblk; cases hblk
      refine Or.inr ⟨by omega, g, 0, cap, by rw [hn], by omega, hlt, fun j x hj => ?_⟩
      have hj1 : j < n := by
        have := (List.getElem?_eq_some_iff.1 hj).1
        omega
      rw [Nat.zero_add, World.ownsRow.cellAt (xs := xs.map Value.string) (cap := cap) (n := n) h j (by omega), List.getElem?_map, hj]
      rfl
end Go.Proofs.YtjipomnemgeaeaaDoor
