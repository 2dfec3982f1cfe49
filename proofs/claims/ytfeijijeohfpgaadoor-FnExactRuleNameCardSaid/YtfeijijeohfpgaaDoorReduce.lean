/-
  The contracts of Reduce, the program's and the model's: the remainder from 0 up to the modulus.
-/
import Derived.Test.YtfeijijeohfpgaaDoorProg
import Derived.Test.YtfeijijeohfpgaaDoorKit
import Derived.WalkSmall
namespace Go.Proofs.YtfeijijeohfpgaaDoor
open Go Go.RowKit

theorem tmod_cases (n : Int) : n.tmod 10007 = n % 10007 ∧ 0 ≤ n ∨ n.tmod 10007 = -((-n) % 10007) ∧ n < 0 := by
  by_cases h : 0 ≤ n
  · exact Or.inl ⟨Int.tmod_eq_emod_of_nonneg h, h⟩
  · refine Or.inr ⟨?_, by omega⟩
    have e : n = -(-n) := by omega
    rw [e, Int.neg_tmod, Int.tmod_eq_emod_of_nonneg (by omega)]
    simp
theorem red_I (n : Int) : (wrap64 (n.tmod 10007 + 10007)).tmod 10007 = n % 10007 := by
  have hw : wrap64 (n.tmod 10007 + 10007) = n.tmod 10007 + 10007 := by
    rcases tmod_cases n with ⟨h, _⟩ | ⟨h, _⟩ <;> · rw [h]; unfold wrap64; omega
  rw [hw, Int.tmod_eq_emod_of_nonneg (by rcases tmod_cases n with ⟨h, _⟩ | ⟨h, _⟩ <;> omega)]
  rcases tmod_cases n with ⟨h, _⟩ | ⟨h, _⟩ <;> omega
theorem red_S (n : Int) (h : n.tmod 10007 < 0) : wrap64 (n.tmod 10007 + 10007) = n % 10007 := by
  have hw : wrap64 (n.tmod 10007 + 10007) = n.tmod 10007 + 10007 := by
    rcases tmod_cases n with ⟨h, _⟩ | ⟨h, _⟩ <;> · rw [h]; unfold wrap64; omega
  rw [hw]
  rcases tmod_cases n with ⟨h, _⟩ | ⟨h, _⟩ <;> omega
theorem red_S0 (n : Int) (h : 0 ≤ n.tmod 10007) : n.tmod 10007 = n % 10007 := by
  rcases tmod_cases n with ⟨h, _⟩ | ⟨h, _⟩ <;> omega
theorem ret_int {a b : Int} (h : a = b) : Ending.returned (.int .i64 a) = Ending.returned (.int .i64 b) := by rw [h]

set_option maxHeartbeats 400000 in
theorem redI_any (n : Int) (w : World) :
    Calls Tryd.prog 68 #[.int .i64 n] w fun e w' => e = .returned (.int .i64 (n % 10007)) ∧ w' = w := by
  go_enter Tryd.func68, Tryd.ntmps68
  go_wp2
  go_ret
  exact ⟨ret_int (red_I n), rfl⟩

end Go.Proofs.YtfeijijeohfpgaaDoor

