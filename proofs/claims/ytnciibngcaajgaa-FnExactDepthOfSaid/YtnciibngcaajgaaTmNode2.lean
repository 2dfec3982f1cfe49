/-
  The contracts of the model's l5Names and l5Fields.
-/
import Derived.Test.YtnciibngcaajgaaTmNode
import Derived.Test.YtnciibngcaajgaaSpecTy3
namespace Go.Proofs.Ytnciibngcaajgaa
open Go Go.RowKit

theorem emp_iff (s : ByteArray) : s.toList.isEmpty = true ↔ s.toList = [] := by simp
theorem b_and {a b : Prop} {x y : Bool} (hx : x = true ↔ a) (hy : y = true ↔ b) : ((x && y) = true ↔ a ∧ b) := by rw [Bool.and_eq_true, hx, hy]
theorem b_not {a : Prop} {x : Bool} (hx : x = true ↔ a) : ((!x) = true ↔ ¬ a) := by rw [Bool.not_eq_true', ← Bool.not_eq_true, hx]
theorem names_4 {t : Tm} (h : t.kind = 4) : t.namesOk ↔ 0 < opAr t.name.toList ∧ t.other.toList = [] := by rw [Tm.namesOk, if_pos h]
theorem names_1 {t : Tm} (h4 : ¬ t.kind = 4) (h : t.kind = 1 ∨ t.kind = 6 ∨ t.kind = 8) : t.namesOk ↔ Nm t.name ∧ t.other.toList = [] := by rw [Tm.namesOk, if_neg h4, if_pos h]
theorem names_9 {t : Tm} (h4 : ¬ t.kind = 4) (h1 : ¬ (t.kind = 1 ∨ t.kind = 6 ∨ t.kind = 8)) (h : t.kind = 9) : t.namesOk ↔ Nm t.name ∧ Nm t.other ∧ t.name ≠ t.other := by rw [Tm.namesOk, if_neg h4, if_neg h1, if_pos h]
theorem names_0 {t : Tm} (h4 : ¬ t.kind = 4) (h1 : ¬ (t.kind = 1 ∨ t.kind = 6 ∨ t.kind = 8)) (h : ¬ t.kind = 9) : t.namesOk ↔ t.name.toList = [] ∧ t.other.toList = [] := by rw [Tm.namesOk, if_neg h4, if_neg h1, if_neg h]
theorem lit_t {p : Prop} (h : p) : (true = true ↔ p) := ⟨fun _ => h, fun _ => rfl⟩
theorem lit_f {p : Prop} (h : ¬ p) : (false = true ↔ p) := ⟨fun e => (by cases e), fun e => absurd e h⟩

end Go.Proofs.Ytnciibngcaajgaa

