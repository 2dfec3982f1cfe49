/-
  The contract of the program's DepthOfType.
-/
import Derived.Test.YtgeliljanljmmaaNodes2
namespace Go.Proofs.Ytgeliljanljmmaa
open Go Go.RowKit Go.Shelf
attribute [local go_sem] Oper.semAt_some

/-- The greatest depth so far. -/
def maxd : List (Ty × Nat) → Nat
  | [] => 0
  | e :: l => max e.2 (maxd l)
theorem maxd_append (a b : List (Ty × Nat)) : maxd (a ++ b) = max (maxd a) (maxd b) := by
  induction a with
  | nil => simp [maxd]
  | cons e a ih => simp only [List.cons_append, maxd, ih]; omega
theorem maxd_snoc (a : List (Ty × Nat)) (e : Ty × Nat) : maxd (a ++ [e]) = max (maxd a) e.2 := by rw [maxd_append]; simp [maxd]
theorem maxd_prefix {a b : List (Ty × Nat)} (h : a <+: b) : maxd a ≤ maxd b := by
  obtain ⟨c, rfl⟩ := h
  rw [maxd_append]
  omega
mutual
theorem maxd_walk : ∀ (t : Ty) (d : Nat), maxd (walkT t d) + 1 = d + t.depth
  | .mk k ts, d => by
    have h := maxd_walkS ts d
    simp only [walkT, maxd, Ty.depth]
    omega
theorem maxd_walkS : ∀ (ts : List Ty) (d : Nat), max d (maxd (walkS ts (d + 1))) = d + depthS ts
  | [], d => by simp [walkS, maxd, depthS]
  | t :: ts, d => by
    have h1 := maxd_walkS ts d
    have h2 := maxd_walk t (d + 1)
    simp only [walkS, maxd_append, depthS]
    omega
end

end Go.Proofs.Ytgeliljanljmmaa

