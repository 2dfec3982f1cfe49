/-
  A term is of the forms of chapter 5 just when each of its nodes is.
-/
import Derived.Test.YtfeijijeohfpgaaDoorKA
import Derived.Test.YtfeijijeohfpgaaDoorTmValid
import Derived.Test.YtfeijijeohfpgaaDoorSizesM
namespace Go.Proofs.YtfeijijeohfpgaaDoor
open Go Go.RowKit

mutual
theorem isT_walk : ∀ (t : Tm) (d : Nat), t.IsT ↔ ∀ e ∈ walkM t d, e.1.NodeOk
  | .mk k a b n t r ts, d => by
    have h := isTS_walk ts (d + 1)
    rw [Tm.IsT_eq]
    show IsTS ts ∧ _ ∧ _ ↔ _
    rw [h]
    simp only [walkM, List.forall_mem_cons]
    exact And.comm
theorem isTS_walk : ∀ (ts : List Tm) (d : Nat), IsTS ts ↔ ∀ e ∈ walkSM ts d, e.1.NodeOk
  | [], d => by simp [IsTS, walkSM]
  | t :: ts, d => by
    have h1 := isTS_walk ts d
    have h2 := isT_walk t d
    simp only [IsTS, walkSM, List.forall_mem_append, h1, h2]
end
theorem validM_walk (t : Tm) {ok : Tm → Bool} (hok : ∀ x, ok x = true ↔ x.NodeOk) : t.Valid ↔ (∀ e ∈ walkM t 1, ok e.1 = true ∧ e.2 ≤ 20) ∧ t.nodes ≤ 80 := by
  have h1 := isT_walk t 1
  have h2 : t.depth ≤ 20 ↔ ∀ e ∈ walkM t 1, e.2 ≤ 20 := by
    rw [← maxdM_le]
    have := maxdM_walk t 1
    omega
  unfold Tm.Valid
  rw [h1, h2]
  constructor
  · rintro ⟨a, b, c⟩
    exact ⟨fun e he => ⟨(hok _).2 (c e he), b e he⟩, a⟩
  · rintro ⟨a, b⟩
    exact ⟨b, fun e he => (a e he).2, fun e he => (hok _).1 (a e he).1⟩
/-- All so far are right. -/
def AllOk (pre : List (Tm × Nat)) : Prop := ∀ e ∈ pre, e.1.NodeOk
theorem AllOk.next {pre : List (Tm × Nat)} {x : Tm} {d : Nat} (h : AllOk pre) (hx : x.NodeOk) : AllOk (pre ++ [(x, d)]) := by
  intro e he
  rcases List.mem_append.1 he with he | he
  · exact h e he
  · simp only [List.mem_singleton] at he; subst he; exact hx
theorem isT_of {t : Tm} (h : AllOk (walkM t 1)) : t.IsT := (isT_walk t 1).2 h
theorem not_isT_at {t x : Tm} {d : Nat} {pre : List (Tm × Nat)} (h : pre ++ [(x, d)] <+: walkM t 1) (hx : ¬ x.NodeOk) : ¬ t.IsT := fun hh =>
  hx ((isT_walk t 1).1 hh (x, d) (h.subset (by simp)))
mutual
theorem wt_walk : ∀ (t : Tm) (d : Nat) (e : Tm × Nat), e ∈ walkM t d → e.1.wt ≤ t.wt
  | .mk k a b n t r ts, d, e, h => by
    rw [walkM] at h
    rcases List.mem_cons.1 h with rfl | h
    · exact Nat.le_refl _
    · have h1 := wt_walkS ts (d + 1) e h
      simp only [Tm.wt]
      omega
theorem wt_walkS : ∀ (ts : List Tm) (d : Nat) (e : Tm × Nat), e ∈ walkSM ts d → e.1.wt ≤ wtS ts
  | [], d, e, h => by simp [walkSM] at h
  | t :: ts, d, e, h => by
    rw [walkSM] at h
    rcases List.mem_append.1 h with h | h
    · have h1 := wt_walk t d e h
      simp only [wtS]
      omega
    · have h1 := wt_walkS ts d e h
      simp only [wtS]
      omega
end
end Go.Proofs.YtfeijijeohfpgaaDoor

