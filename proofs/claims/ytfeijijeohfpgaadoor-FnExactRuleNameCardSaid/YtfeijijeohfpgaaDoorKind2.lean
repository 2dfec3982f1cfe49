/-
  The contracts of the program's IsBase and isCode.
-/
import Derived.Test.YtfeijijeohfpgaaDoorKind
namespace Go.Proofs.YtfeijijeohfpgaaDoor
open Go Go.RowKit

theorem kindV_cases (k : Int) (n : Nat) : ((k = 1 ∧ n = 0) ∧ kindV k n = .iface 122 (.agg #[])) ∨ ((k = 2 ∧ n = 0) ∧ kindV k n = .iface 123 (.agg #[])) ∨
    ((k = 3 ∧ n = 2) ∧ kindV k n = .iface 124 (.agg #[])) ∨ ((k = 4 ∧ n = 1) ∧ kindV k n = .iface 125 (.agg #[])) ∨
    ((¬ (k = 1 ∧ n = 0) ∧ ¬ (k = 2 ∧ n = 0) ∧ ¬ (k = 3 ∧ n = 2) ∧ ¬ (k = 4 ∧ n = 1)) ∧ kindV k n = .nilIface) := by
  unfold kindV
  by_cases h1 : k = 1 ∧ n = 0
  · simp [h1]
  by_cases h2 : k = 2 ∧ n = 0
  · simp [h2]
  by_cases h3 : k = 3 ∧ n = 2
  · simp [h3]
  by_cases h4 : k = 4 ∧ n = 1
  · simp [h4]
  simp [h1, h2, h3, h4]

theorem as_int_int (w : World) : (Instr.typeAssert (.iface 122 (.agg #[])) 92 122 true).run Tryd.prog w = .ok (.tuple #[.agg #[], .bool true]) w := by kernel_rfl
theorem as_bool_int (w : World) : (Instr.typeAssert (.iface 123 (.agg #[])) 92 122 true).run Tryd.prog w = .ok (.tuple #[.agg #[], .bool false]) w := by kernel_rfl
theorem as_fun_int (w : World) : (Instr.typeAssert (.iface 124 (.agg #[])) 92 122 true).run Tryd.prog w = .ok (.tuple #[.agg #[], .bool false]) w := by kernel_rfl
theorem as_code_int (w : World) : (Instr.typeAssert (.iface 125 (.agg #[])) 92 122 true).run Tryd.prog w = .ok (.tuple #[.agg #[], .bool false]) w := by kernel_rfl
theorem as_nil_int (w : World) : (Instr.typeAssert .nilIface 92 122 true).run Tryd.prog w = .ok (.tuple #[.agg #[], .bool false]) w := by kernel_rfl
theorem as_int_bool (w : World) : (Instr.typeAssert (.iface 122 (.agg #[])) 92 123 true).run Tryd.prog w = .ok (.tuple #[.agg #[], .bool false]) w := by kernel_rfl
theorem as_bool_bool (w : World) : (Instr.typeAssert (.iface 123 (.agg #[])) 92 123 true).run Tryd.prog w = .ok (.tuple #[.agg #[], .bool true]) w := by kernel_rfl
theorem as_fun_bool (w : World) : (Instr.typeAssert (.iface 124 (.agg #[])) 92 123 true).run Tryd.prog w = .ok (.tuple #[.agg #[], .bool false]) w := by kernel_rfl
theorem as_code_bool (w : World) : (Instr.typeAssert (.iface 125 (.agg #[])) 92 123 true).run Tryd.prog w = .ok (.tuple #[.agg #[], .bool false]) w := by kernel_rfl
theorem as_nil_bool (w : World) : (Instr.typeAssert .nilIface 92 123 true).run Tryd.prog w = .ok (.tuple #[.agg #[], .bool false]) w := by kernel_rfl
theorem as_int_code (w : World) : (Instr.typeAssert (.iface 122 (.agg #[])) 92 125 true).run Tryd.prog w = .ok (.tuple #[.agg #[], .bool false]) w := by kernel_rfl
theorem as_bool_code (w : World) : (Instr.typeAssert (.iface 123 (.agg #[])) 92 125 true).run Tryd.prog w = .ok (.tuple #[.agg #[], .bool false]) w := by kernel_rfl
theorem as_fun_code (w : World) : (Instr.typeAssert (.iface 124 (.agg #[])) 92 125 true).run Tryd.prog w = .ok (.tuple #[.agg #[], .bool false]) w := by kernel_rfl
theorem as_code_code (w : World) : (Instr.typeAssert (.iface 125 (.agg #[])) 92 125 true).run Tryd.prog w = .ok (.tuple #[.agg #[], .bool true]) w := by kernel_rfl
theorem as_nil_code (w : World) : (Instr.typeAssert .nilIface 92 125 true).run Tryd.prog w = .ok (.tuple #[.agg #[], .bool false]) w := by kernel_rfl

theorem dec_t {P : Prop} [Decidable P] (h : P) : true = decide P := (decide_eq_true h).symm
theorem dec_f {P : Prop} [Decidable P] (h : ¬ P) : false = decide P := (decide_eq_false h).symm

def Ty.code (t : Ty) : Bool := decide (t.kind = 4 ∧ t.args.length = 1)

end Go.Proofs.YtfeijijeohfpgaaDoor

