/-
  Fresh names, of no program: the names v1, v2, .. differ, so one of the first (length + 1) of them isn't in a list.
-/
import Derived.Test.YtjipomnemgeaeaaDoorNum
import Derived.Test.YtjipomnemgeaeaaDoorKit
import Derived.Test.YtjipomnemgeaeaaDoorRead
namespace Go.Proofs.YtjipomnemgeaeaaDoor
open Go Go.RowKit

/-- The k-th name. -/
def vName (k : Nat) : ByteArray := (⟨#[118]⟩ : ByteArray) ++ ⟨(Lib.itoa k).toArray⟩
theorem vName_size {k : Nat} (h : k ≤ 9223372036854775807) : (vName k).size ≤ 21 := by
  have h1 := itoa_length_le (n := (k : Int)) (by omega) (by omega)
  unfold vName
  rw [str_cons]
  show (118 :: Lib.itoa k).length ≤ 21
  simp only [List.length_cons]
  omega
theorem vName_inj {a b : Nat} (h : vName a = vName b) : a = b := by
  unfold vName at h
  rw [str_cons, str_cons] at h
  have h1 : (118 :: Lib.itoa a).toArray = (118 :: Lib.itoa b).toArray := by injection h
  have h2 : Lib.itoa (a : Int) = Lib.itoa (b : Int) := by
    have := congrArg Array.toList h1
    simpa using this
  have h3 : (a : Int) = (b : Int) := by rw [← rd_itoa (a : Int), h2, rd_itoa]
  omega

theorem pigeon {α : Type} : ∀ (l xs : List α), l.Nodup → (∀ x ∈ l, x ∈ xs) → l.length ≤ xs.length
  | [], xs, _, _ => Nat.zero_le _
  | x :: l, xs, hn, h => by
    obtain ⟨s, t, rfl⟩ := List.append_of_mem (h x (List.mem_cons_self ..))
    have hx := List.nodup_cons.1 hn
    have h1 := pigeon l (s ++ t) hx.2 (fun y hy => by
      have hne : y ≠ x := fun e => hx.1 (e ▸ hy)
      have h2 := h y (List.mem_cons_of_mem _ hy)
      simp only [List.mem_append, List.mem_cons] at h2 ⊢
      rcases h2 with h2 | h2 | h2
      · exact Or.inl h2
      · exact absurd h2 hne
      · exact Or.inr h2)
    simp only [List.length_append, List.length_cons] at h1 ⊢
    omega

theorem least {P : Nat → Prop} : ∀ n, P n → ∃ m, m ≤ n ∧ P m ∧ ∀ j, j < m → ¬ P j
  | n => fun h => by
    by_cases hx : ∃ j, j < n ∧ P j
    · obtain ⟨j, hj, hp⟩ := hx
      obtain ⟨m, hm, h1, h2⟩ := least j hp
      exact ⟨m, by omega, h1, h2⟩
    · exact ⟨n, Nat.le_refl _, h, fun j hj hp => hx ⟨j, hj, hp⟩⟩

/-- N is the least number from 1 on whose name isn't in the list. -/
structure Fresh (xs : List ByteArray) (N : Nat) : Prop where
  lo : 1 ≤ N
  hi : N ≤ xs.length + 1
  out : vName N ∉ xs
  all : ∀ j, 1 ≤ j → j < N → vName j ∈ xs

theorem fresh_ex (xs : List ByteArray) : ∃ N, Fresh xs N := by
  have hex : ∃ i, i ≤ xs.length ∧ vName (i + 1) ∉ xs := by
    by_cases hc : ∃ i, i ≤ xs.length ∧ vName (i + 1) ∉ xs
    · exact hc
    · exfalso
      have hl : ((List.range (xs.length + 1)).map fun i => vName (i + 1)).length ≤ xs.length := by
        refine pigeon _ _ ?_ ?_
        · rw [List.Nodup, List.pairwise_map]
          refine List.Pairwise.imp ?_ (List.nodup_range (n := xs.length + 1))
          intro a b hab he
          exact hab (by have := vName_inj he; omega)
        · intro x hx
          obtain ⟨i, hi, rfl⟩ := List.mem_map.1 hx
          have hi' := List.mem_range.1 hi
          by_cases hm : vName (i + 1) ∈ xs
          · exact hm
          · exact absurd ⟨i, by omega, hm⟩ hc
      simp at hl
      omega
  obtain ⟨i, hi, hno⟩ := hex
  obtain ⟨m, hm, h1, h2⟩ := least (P := fun i => vName (i + 1) ∉ xs) i hno
  refine ⟨m + 1, by omega, by omega, h1, fun j h0 hj => ?_⟩
  have h3 := h2 (j - 1) (by omega)
  rw [show j - 1 + 1 = j by omega] at h3
  by_cases hin : vName j ∈ xs
  · exact hin
  · exact absurd hin h3
theorem Fresh.next {xs : List ByteArray} {N k : Nat} (h : Fresh xs N) (hk : k ≤ N) (hin : vName k ∈ xs) : k + 1 ≤ N := by
  rcases Nat.lt_or_ge k N with h' | h'
  · exact h'
  · obtain rfl : k = N := by omega
    exact absurd hin h.out
theorem Fresh.here {xs : List ByteArray} {N k : Nat} (h : Fresh xs N) (hk : k ≤ N) (h1 : 1 ≤ k) (hno : vName k ∉ xs) : k = N := by
  rcases Nat.lt_or_ge k N with h' | h'
  · exact absurd (h.all k h1 h') hno
  · omega
end Go.Proofs.YtjipomnemgeaeaaDoor
