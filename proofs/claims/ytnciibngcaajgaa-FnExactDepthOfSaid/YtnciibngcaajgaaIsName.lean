/-
  The contracts of IsName, the program's and the model's, and the walk of the law on it.
-/
import Derived.Test.YtnciibngcaajgaaApply
import Derived.Test.YtnciibngcaajgaaStrEq
import Derived.Laws.RangeAny
import Derived.LoopTactic
namespace Go.Proofs.Ytnciibngcaajgaa
open Go Go.RowKit

/-- The k-th byte may stand there in a name. -/
def okAt (s : ByteArray) (k : Nat) : Prop := ∀ h : k < s.size, (97 ≤ (s[k]'h).toNat ∧ (s[k]'h).toNat ≤ 122) ∨ (1 ≤ k ∧ 48 ≤ (s[k]'h).toNat ∧ (s[k]'h).toNat ≤ 57)
def Res (s : ByteArray) : Prop := s.toList = [105, 102] ∨ s.toList = [108, 101, 116] ∨ s.toList = [108, 105, 102, 116] ∨ s.toList = [114, 101, 99] ∨ s.toList = [114, 117, 110]
structure Nm (s : ByteArray) : Prop where
  ok : ∀ k, okAt s k
  lo : 1 ≤ s.size
  hi : s.size ≤ 4
  free : ¬ Res s
def Tells (p : Prop) (w : World) (e : Ending) (w' : World) : Prop := ∃ r : Bool, (r = true ↔ p) ∧ e = .returned (.bool r) ∧ Below w.heap.size w w'
theorem tells_no {p : Prop} (h : ¬ p) : (false = true ↔ p) := ⟨fun hc => (by cases hc), fun hp => absurd hp h⟩
theorem tells_yes {p : Prop} (h : p) : (true = true ↔ p) := ⟨fun _ => h, fun _ => rfl⟩
theorem lst {a b : List UInt8} (h : (a == b) = true) : a = b := by simpa using h
theorem nlst {a b : List UInt8} (h : (a == b) = false) : a ≠ b := by simpa using h

theorem res_0 {s : ByteArray} (h : s.toList = [105, 102]) : (s.toList == [105, 102]) = true ∧ (s.toList == [108, 101, 116]) = false ∧ (s.toList == [108, 105, 102, 116]) = false ∧ (s.toList == [114, 101, 99]) = false ∧ (s.toList == [114, 117, 110]) = false := by rw [h]; exact ⟨rfl, rfl, rfl, rfl, rfl⟩
theorem res_1 {s : ByteArray} (h : s.toList = [108, 101, 116]) : (s.toList == [105, 102]) = false ∧ (s.toList == [108, 101, 116]) = true ∧ (s.toList == [108, 105, 102, 116]) = false ∧ (s.toList == [114, 101, 99]) = false ∧ (s.toList == [114, 117, 110]) = false := by rw [h]; exact ⟨rfl, rfl, rfl, rfl, rfl⟩
theorem res_2 {s : ByteArray} (h : s.toList = [108, 105, 102, 116]) : (s.toList == [105, 102]) = false ∧ (s.toList == [108, 101, 116]) = false ∧ (s.toList == [108, 105, 102, 116]) = true ∧ (s.toList == [114, 101, 99]) = false ∧ (s.toList == [114, 117, 110]) = false := by rw [h]; exact ⟨rfl, rfl, rfl, rfl, rfl⟩
theorem res_3 {s : ByteArray} (h : s.toList = [114, 101, 99]) : (s.toList == [105, 102]) = false ∧ (s.toList == [108, 101, 116]) = false ∧ (s.toList == [108, 105, 102, 116]) = false ∧ (s.toList == [114, 101, 99]) = true ∧ (s.toList == [114, 117, 110]) = false := by rw [h]; exact ⟨rfl, rfl, rfl, rfl, rfl⟩
theorem res_4 {s : ByteArray} (h : s.toList = [114, 117, 110]) : (s.toList == [105, 102]) = false ∧ (s.toList == [108, 101, 116]) = false ∧ (s.toList == [108, 105, 102, 116]) = false ∧ (s.toList == [114, 101, 99]) = false ∧ (s.toList == [114, 117, 110]) = true := by rw [h]; exact ⟨rfl, rfl, rfl, rfl, rfl⟩
theorem res_no {s : ByteArray} (h : ¬ Res s) : (s.toList == [105, 102]) = false ∧ (s.toList == [108, 101, 116]) = false ∧ (s.toList == [108, 105, 102, 116]) = false ∧ (s.toList == [114, 101, 99]) = false ∧ (s.toList == [114, 117, 110]) = false := by
  unfold Res at h
  simp only [not_or] at h
  exact ⟨by simpa using h.1, by simpa using h.2.1, by simpa using h.2.2.1, by simpa using h.2.2.2.1, by simpa using h.2.2.2.2⟩
theorem at_zero {k : Nat} (h : k = 0) : ((k : Int) == 0) = true := by rw [h]; rfl
theorem at_more {k : Nat} (h : 1 ≤ k) : ((k : Int) == 0) = false := by rw [beq_eq_false_iff_ne]; omega
theorem ok_letter {s : ByteArray} {k : Nat} {hk : k < s.size} (h1 : 97 ≤ (s[k]'hk).toNat) (h2 : (s[k]'hk).toNat ≤ 122) : okAt s k := fun _ => Or.inl ⟨h1, h2⟩
theorem ok_digit {s : ByteArray} {k : Nat} {hk : k < s.size} (h0 : 1 ≤ k) (h1 : 48 ≤ (s[k]'hk).toNat) (h2 : (s[k]'hk).toNat ≤ 57) : okAt s k := fun _ => Or.inr ⟨h0, h1, h2⟩
theorem ok_bad {s : ByteArray} {k : Nat} {hk : k < s.size} (h1 : (s[k]'hk).toNat < 97 ∨ 122 < (s[k]'hk).toNat) (h2 : k = 0 ∨ (s[k]'hk).toNat < 48 ∨ 57 < (s[k]'hk).toNat) : ¬ Nm s := fun h => by
  have := h.ok k hk
  omega
theorem ok_next {s : ByteArray} {k : Nat} (h : ∀ j, j < k → okAt s j) (h1 : okAt s k) : ∀ j, j < k + 1 → okAt s j := fun j hj => by
  by_cases e : j = k
  · rw [e]; exact h1
  · exact h j (by omega)
theorem ok_end {s : ByteArray} {k : Nat} (h : ∀ j, j < k → okAt s j) (hk : s.size ≤ k) : ∀ j, okAt s j := fun j => by
  by_cases e : j < k
  · exact h j e
  · exact fun hj => absurd hj (by omega)

end Go.Proofs.Ytnciibngcaajgaa

