/-
  Appending one string to a slice of strings that the call made itself, at the operation.
-/
import Derived.Test.YtjipomnemgeaeaaDoorProg
import Derived.Test.YtjipomnemgeaeaaDoorStrs
import Derived.Test.YtjipomnemgeaeaaDoorCopy
import Derived.Laws.AppendOwn
namespace Go.Proofs.YtjipomnemgeaeaaDoor
open Go Go.RowKit

/-- The slice v is a row of the call's own (from block base on) with just the strings xs. -/
def Own (w : World) (base : Nat) (v : Value) (xs : List ByteArray) : Prop := w.ownsRow base 9 1 v xs.length (xs.map Value.string)
theorem Own.ss {w : World} {base : Nat} {v : Value} {xs : List ByteArray} (h : Own w base v xs) : SS w v xs := SS_of_row h
theorem Own.below {w w' : World} {base : Nat} {v : Value} {xs : List ByteArray} (h : Own w base v xs) (hb : Below w.heap.size w w') : Own w' base v xs := ownsRow_below h hb
theorem own_nil (w : World) (base : Nat) : Own w base (.slice none 0 0) [] := ⟨rfl, Or.inl ⟨rfl, rfl⟩⟩
theorem own_empty (w : World) : Own (w.alloc (.cells #[] 9)) w.heap.size (.slice (some ⟨w.heap.size, 0, none⟩) 0 0) [] :=
  World.ownsRow_lit w #[] 0 (Nat.le_refl _) (Nat.zero_le _) rfl

theorem wpList_app_str {w0 : World} {ops : Array Oper} {rest : List Oper} {o : Oper} {a : Act} {Q : Exit → Act → World → Prop} (hgd : o.guard = none) (s x : Operand)
    (ho : o.op = .call { callee := .builtin .append, args := #[s, x], argTypes := #[24, 24] })
    (base : Nat) (v : Value) (xs : List ByteArray) (hs : a.eval s = v) (hown : Own w0 base v xs) (y : ByteArray)
    (hx : a.eval x = .slice (some ⟨w0.heap.size, 0, none⟩) 1 1) (hlen : xs.length ≤ 8388608) (hbase : base ≤ w0.heap.size)
    (h : ∀ v' w', Own w' base v' (xs ++ [y]) → Below base w0 w' → wpList Tryd.prog ops Q rest (a.put o.dst v') w') :
    wpList Tryd.prog ops Q (o :: rest) a (w0.alloc (.cells #[.string y] 9)) := by
  obtain ⟨i0, hi, hz0, hz1, hz2⟩ := info_parts infoStr
  have hown1 := hown.below ((Below.refl w0.heap.size w0).alloc (Nat.le_refl _) (.cells #[.string y] 9))
  refine wpList_append_own _ hgd s x 24 ho base 9 i0 (.string ⟨#[]⟩) 1 16 Tryd.underlying24 hi hz0 hz1 hz2 rfl (by decide) v xs.length (xs.map Value.string) hs hown1
    ⟨w0.heap.size, 0, none⟩ 1 1 [.string y] hx rfl (cell_one_new _ _ _) (fun u hu => by simp at hu; subst hu; rfl) (by unfold maxLen; omega) (by omega) (by simp; omega) ?_
  intro v' w' hown' hg _
  refine h v' w' ?_ ?_
  · have e : (xs ++ [y]).map Value.string = xs.map Value.string ++ [Value.string y] := by simp
    have e1 : (xs ++ [y]).length = xs.length + 1 := by simp
    unfold Own
    rw [e, e1]
    exact hown'
  · exact ((Below.refl base w0).alloc hbase _).grown hg (by simp; omega) (fun k hk => (hown1.lt k hk).1)
end Go.Proofs.YtjipomnemgeaeaaDoor
