/-
  Contexts, of no program: which typing counts, what may be run, what a proper context is.
-/
import Derived.Test.YteoeefmdfalnjaaCxA
import Derived.Test.YteoeefmdfalnjaaIsName
import Derived.Test.YteoeefmdfalnjaaSpecTy3
namespace Go.Proofs.Yteoeefmdfalnjaa
open Go Go.RowKit

/-- The place of the last typing of a name. -/
def lastIx : List Tg → ByteArray → Option Nat
  | [], _ => none
  | x :: L, s => match lastIx L s with
    | some k => some (k + 1)
    | none => if x.nm = s then some 0 else none
theorem lastIx_none (L : List Tg) (s : ByteArray) : lastIx L s = none ↔ ∀ (j : Nat) (x : Tg), L[j]? = some x → ¬ x.nm = s := by
  induction L with
  | nil => simp [lastIx]
  | cons y L ih =>
    unfold lastIx
    constructor
    · intro h j x hj
      cases hL : lastIx L s with
      | some k => rw [hL] at h; cases h
      | none =>
        rw [hL] at h
        cases j with
        | zero =>
          simp only [List.getElem?_cons_zero, Option.some.injEq] at hj
          subst hj
          intro e
          simp [e] at h
        | succ j => exact ih.1 hL j x (by simpa using hj)
    · intro h
      rw [ih.2 (fun j x hj => h (j + 1) x (by simpa using hj))]
      simp [h 0 y rfl]
theorem lastIx_some (L : List Tg) (s : ByteArray) (k : Nat) : lastIx L s = some k ↔ (∃ x : Tg, L[k]? = some x ∧ x.nm = s) ∧ ∀ (j : Nat) (x : Tg), k < j → L[j]? = some x → ¬ x.nm = s := by
  induction L generalizing k with
  | nil => simp [lastIx]
  | cons y L ih =>
    unfold lastIx
    cases hL : lastIx L s with
    | some m =>
      simp only [Option.some.injEq]
      have hm := (ih m).1 hL
      constructor
      · rintro rfl
        refine ⟨by simpa using hm.1, fun j x hj hx => ?_⟩
        obtain ⟨j, rfl⟩ : ∃ i, j = i + 1 := ⟨j - 1, by omega⟩
        exact hm.2 j x (by omega) (by simpa using hx)
      · rintro ⟨⟨x, hx, hxs⟩, h2⟩
        obtain ⟨z, hz, hzs⟩ := hm.1
        rcases Nat.lt_trichotomy (m + 1) k with h | h | h
        · obtain ⟨i, rfl⟩ : ∃ i, k = i + 1 := ⟨k - 1, by omega⟩
          exact absurd hxs (hm.2 i x (by omega) (by simpa using hx))
        · exact h
        · exact absurd hzs (h2 (m + 1) z h (by simpa using hz))
    | none =>
      have hm := (lastIx_none L s).1 hL
      constructor
      · intro h
        by_cases hy : y.nm = s
        · rw [if_pos hy] at h
          obtain rfl := Option.some.inj h
          refine ⟨⟨y, rfl, hy⟩, fun j x hj hx => ?_⟩
          obtain ⟨j, rfl⟩ : ∃ i, j = i + 1 := ⟨j - 1, by omega⟩
          exact hm j x (by simpa using hx)
        · rw [if_neg hy] at h; cases h
      · rintro ⟨⟨x, hx, hxs⟩, h2⟩
        cases k with
        | zero =>
          simp only [List.getElem?_cons_zero, Option.some.injEq] at hx
          subst hx
          rw [if_pos hxs]
        | succ k => exact absurd hxs (hm k x (by simpa using hx))
theorem lastIx_lt {L : List Tg} {s : ByteArray} {k : Nat} (h : lastIx L s = some k) : k < L.length := by
  obtain ⟨⟨x, hx, _⟩, _⟩ := (lastIx_some L s k).1 h
  exact (List.getElem?_eq_some_iff.1 hx).1
theorem lastIx_append (L : List Tg) (y : Tg) (s : ByteArray) : lastIx (L ++ [y]) s = if y.nm = s then some L.length else lastIx L s := by
  by_cases hy : y.nm = s
  · rw [if_pos hy, lastIx_some]
    refine ⟨⟨y, by simp, hy⟩, fun j x hj hx => ?_⟩
    have := (List.getElem?_eq_some_iff.1 hx).1
    simp at this
    omega
  · rw [if_neg hy]
    cases h : lastIx L s with
    | none =>
      rw [lastIx_none]
      intro j x hx
      by_cases hj : j < L.length
      · rw [List.getElem?_append_left hj] at hx
        exact (lastIx_none L s).1 h j x hx
      · have := (List.getElem?_eq_some_iff.1 hx).1
        simp at this
        obtain rfl : j = L.length := by omega
        simp at hx
        exact hx ▸ hy
    | some k =>
      obtain ⟨⟨z, hz, hzs⟩, h2⟩ := (lastIx_some L s k).1 h
      have hk := (List.getElem?_eq_some_iff.1 hz).1
      rw [lastIx_some]
      refine ⟨⟨z, by rw [List.getElem?_append_left hk]; exact hz, hzs⟩, fun j x hj hx => ?_⟩
      by_cases hjl : j < L.length
      · rw [List.getElem?_append_left hjl] at hx
        exact h2 j x hj hx
      · have := (List.getElem?_eq_some_iff.1 hx).1
        simp at this
        obtain rfl : j = L.length := by omega
        simp at hx
        exact hx ▸ hy
/-- What may be run at level n, of the first k typings. -/
def safeUpto (L : List Tg) (n : Int) : Nat → List Tg
  | 0 => []
  | k + 1 => match L[k]? with
    | some x => if x.ty.base = true ∧ x.lv ≤ n ∧ lastIx L x.nm = some k then safeUpto L n k ++ [x] else safeUpto L n k
    | none => safeUpto L n k
def safeL (L : List Tg) (n : Int) : List Tg := safeUpto L n L.length
theorem safeUpto_yes {L : List Tg} {n : Int} {k : Nat} (hk : k < L.length) (h1 : L[k].ty.base = true) (h2 : L[k].lv ≤ n) (h3 : lastIx L L[k].nm = some k) : safeUpto L n (k + 1) = safeUpto L n k ++ [L[k]] := by
  simp [safeUpto, List.getElem?_eq_getElem hk, h1, h2, h3]
theorem safeUpto_no {L : List Tg} {n : Int} {k : Nat} (hk : k < L.length) (h : ¬ (L[k].ty.base = true ∧ L[k].lv ≤ n ∧ lastIx L L[k].nm = some k)) : safeUpto L n (k + 1) = safeUpto L n k := by
  rw [safeUpto, List.getElem?_eq_getElem hk]
  exact if_neg h
theorem safeUpto_len (L : List Tg) (n : Int) (k : Nat) : (safeUpto L n k).length ≤ k := by
  induction k with
  | zero => simp [safeUpto]
  | succ k ih =>
    unfold safeUpto
    split
    · split
      · simp; omega
      · omega
    · omega
theorem safeUpto_mem (L : List Tg) (n : Int) (k : Nat) : ∀ x ∈ safeUpto L n k, x ∈ L := by
  induction k with
  | zero => simp [safeUpto]
  | succ k ih =>
    unfold safeUpto
    split
    · next x hx =>
      split
      · intro y hy
        rcases List.mem_append.1 hy with hy | hy
        · exact ih y hy
        · rw [List.mem_singleton.1 hy]; exact List.mem_of_getElem? hx
      · exact ih
    · exact ih
theorem safeUpto_wt (L : List Tg) (n : Int) (k : Nat) (hk : k ≤ L.length) : wtC (safeUpto L n k) ≤ wtC (L.take k) := by
  induction k with
  | zero => simp [safeUpto, wtC]
  | succ k ih =>
    have hk' : k < L.length := by omega
    have h1 := wtC_take L k hk'
    have h2 := ih (by omega)
    by_cases h : L[k].ty.base = true ∧ L[k].lv ≤ n ∧ lastIx L L[k].nm = some k
    · rw [safeUpto_yes hk' h.1 h.2.1 h.2.2, wtC_append]
      simp only [wtC]
      omega
    · rw [safeUpto_no hk' h]
      omega
theorem safeL_wt (L : List Tg) (n : Int) : wtC (safeL L n) ≤ wtC L := by
  have := safeUpto_wt L n L.length (Nat.le_refl _)
  rwa [List.take_length] at this
/-- A proper typing; a proper context. -/
def Tg.ok (x : Tg) : Prop := Nm x.nm ∧ x.ty.valid = true ∧ 0 ≤ x.lv ∧ x.lv ≤ 2
def isCx (L : List Tg) : Prop := (∀ x ∈ L, x.ok) ∧ L.length ≤ 12
theorem cx_all_next {L : List Tg} {k : Nat} (h : ∀ x ∈ L.take k, x.ok) (hk : k < L.length) (hx : L[k].ok) : ∀ x ∈ L.take (k + 1), x.ok := by
  rw [cx_take_next hk]
  intro x h1
  rcases List.mem_append.1 h1 with h1 | h1
  · exact h x h1
  · rw [List.mem_singleton.1 h1]; exact hx
theorem not_cx_at {L : List Tg} {k : Nat} (hk : k < L.length) (hx : ¬ L[k].ok) : ¬ isCx L := fun h => hx (h.1 _ (List.getElem_mem hk))
end Go.Proofs.Yteoeefmdfalnjaa

