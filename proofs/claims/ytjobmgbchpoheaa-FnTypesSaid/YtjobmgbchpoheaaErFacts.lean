/-
  Facts of no walk on erasing: a valid type erased is plain; a plain type erased is itself; what is erased, erased again, is itself.
-/
import Derived.Test.YtjobmgbchpoheaaEraseTypeLaw
import Derived.Test.YtjobmgbchpoheaaSpecTy3
namespace Go.Proofs.Ytjobmgbchpoheaa
open Go Go.RowKit

theorem eraseK_depth (k : Int) (es : List Ty) : (eraseK k es).depth ≤ 1 + depthS es := by
  unfold eraseK
  split
  · next h =>
    obtain ⟨x, rfl⟩ := List.length_eq_one_iff.1 h.2
    simp [depthS]
  · simp [Ty.depth]
mutual
theorem erase_depth : ∀ t : Ty, t.erase.depth ≤ t.depth
  | .mk k ts => by
    have h1 := eraseS_depth ts
    have h2 := eraseK_depth k (eraseS ts)
    simp only [Ty.erase, Ty.depth]
    omega
theorem eraseS_depth : ∀ ts : List Ty, depthS (eraseS ts) ≤ depthS ts
  | [] => Nat.le_refl _
  | t :: ts => by
    have h1 := erase_depth t
    have h2 := eraseS_depth ts
    simp only [eraseS, depthS]
    omega
end
theorem eraseS_len (ts : List Ty) : (eraseS ts).length = ts.length := by rw [eraseS_map, List.length_map]

theorem hasS_cons (q : Int) (t : Ty) (ts : List Ty) : hasS q (t :: ts) = false ↔ t.has q = false ∧ hasS q ts = false := by simp [hasS]
theorem has_mk (q k : Int) (ts : List Ty) : (Ty.mk k ts).has q = false ↔ hasS q ts = false ∧ k ≠ q := by simp [Ty.has]

mutual
theorem erase_form : ∀ t : Ty, t.form = true → t.erase.form = true ∧ t.erase.has 4 = false
  | .mk k ts, h => by
    obtain ⟨hs, hk⟩ := (form_mk k ts).1 h
    obtain ⟨f1, f2⟩ := eraseS_form ts hs
    have hl := eraseS_len ts
    simp only [Ty.erase, eraseK]
    split
    · next hh =>
      obtain ⟨x, hx⟩ := List.length_eq_one_iff.1 hh.2
      rw [hx] at f1 f2 ⊢
      exact ⟨((formS_cons _ _).1 f1).1, ((hasS_cons _ _ _).1 f2).1⟩
    · next hh =>
      exact ⟨(form_mk _ _).2 ⟨f1, by omega⟩, (has_mk _ _ _).2 ⟨f2, by omega⟩⟩
theorem eraseS_form : ∀ ts : List Ty, formS ts = true → formS (eraseS ts) = true ∧ hasS 4 (eraseS ts) = false
  | [], _ => ⟨rfl, rfl⟩
  | t :: ts, h => by
    obtain ⟨h1, h2⟩ := (formS_cons _ _).1 h
    obtain ⟨a1, a2⟩ := erase_form t h1
    obtain ⟨b1, b2⟩ := eraseS_form ts h2
    exact ⟨(formS_cons _ _).2 ⟨a1, b1⟩, (hasS_cons _ _ _).2 ⟨a2, b2⟩⟩
end
mutual
theorem erase_same : ∀ t : Ty, t.has 4 = false → t.erase = t
  | .mk k ts, h => by
    obtain ⟨h1, h2⟩ := (has_mk _ _ _).1 h
    rw [Ty.erase, eraseS_same ts h1, eraseK, if_neg (fun hh => h2 hh.1)]
theorem eraseS_same : ∀ ts : List Ty, hasS 4 ts = false → eraseS ts = ts
  | [], _ => rfl
  | t :: ts, h => by
    obtain ⟨h1, h2⟩ := (hasS_cons _ _ _).1 h
    rw [eraseS, erase_same t h1, eraseS_same ts h2]
end
mutual
theorem erase_idem : ∀ t : Ty, t.erase.erase = t.erase
  | .mk k ts => by
    have hs := eraseS_idem ts
    have hl := eraseS_len ts
    simp only [Ty.erase, eraseK]
    split
    · next hh =>
      obtain ⟨x, hx⟩ := List.length_eq_one_iff.1 hh.2
      rw [hx] at hs ⊢
      simp only [eraseS, List.cons.injEq, and_true] at hs
      exact hs
    · next hh => rw [Ty.erase, hs, eraseK, if_neg hh]
theorem eraseS_idem : ∀ ts : List Ty, eraseS (eraseS ts) = eraseS ts
  | [] => rfl
  | t :: ts => by rw [eraseS, eraseS, erase_idem t, eraseS_idem ts]
end
/-- A VALID TYPE ERASED IS PLAIN. -/
theorem erase_plain (t : Ty) (h : t.valid = true) : t.erase.plain = true := by
  obtain ⟨h1, h2, h3⟩ := (valid_iff t).1 h
  obtain ⟨f1, f2⟩ := erase_form t h3
  have hv : t.erase.valid = true := (valid_iff _).2 ⟨Nat.le_trans (erase_nodes t) h1, Nat.le_trans (erase_depth t) h2, f1⟩
  simp [Ty.plain, hv, f2]
/-- A PLAIN TYPE ERASED IS ITSELF. -/
theorem plain_erase (t : Ty) (h : t.plain = true) : t.erase = t := by
  simp only [Ty.plain, Bool.and_eq_true, Bool.not_eq_true'] at h
  exact erase_same t h.2
end Go.Proofs.Ytjobmgbchpoheaa

