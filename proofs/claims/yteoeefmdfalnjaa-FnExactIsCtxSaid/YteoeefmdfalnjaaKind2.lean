/-
  The contracts of the program's IsBase and isCode.
-/
import Derived.Test.YteoeefmdfalnjaaKind
namespace Go.Proofs.Yteoeefmdfalnjaa
open Go Go.RowKit

theorem kindV_cases (k : Int) (n : Nat) : ((k = 1 ∧ n = 0) ∧ kindV k n = .iface 74 (.agg #[])) ∨ ((k = 2 ∧ n = 0) ∧ kindV k n = .iface 75 (.agg #[])) ∨
    ((k = 3 ∧ n = 2) ∧ kindV k n = .iface 76 (.agg #[])) ∨ ((k = 4 ∧ n = 1) ∧ kindV k n = .iface 77 (.agg #[])) ∨
    ((¬ (k = 1 ∧ n = 0) ∧ ¬ (k = 2 ∧ n = 0) ∧ ¬ (k = 3 ∧ n = 2) ∧ ¬ (k = 4 ∧ n = 1)) ∧ kindV k n = .nilIface) := by
  unfold kindV
  by_cases h1 : k = 1 ∧ n = 0
  · simp [h1]
  by_cases h2 : k = 2 ∧ n = 0
  · simp [h2]
  by_cases h3 : k = 3 ∧ n = 2
  · simp [h3]
  by_cases h4 : k = 4 ∧ n = 1
  · simp [h4]
  simp [h1, h2, h3, h4]

theorem as_int_int (w : World) : (Instr.typeAssert (.iface 74 (.agg #[])) 59 74 true).run Try.prog w = .ok (.tuple #[.agg #[], .bool true]) w := by kernel_rfl
theorem as_bool_int (w : World) : (Instr.typeAssert (.iface 75 (.agg #[])) 59 74 true).run Try.prog w = .ok (.tuple #[.agg #[], .bool false]) w := by kernel_rfl
theorem as_fun_int (w : World) : (Instr.typeAssert (.iface 76 (.agg #[])) 59 74 true).run Try.prog w = .ok (.tuple #[.agg #[], .bool false]) w := by kernel_rfl
theorem as_code_int (w : World) : (Instr.typeAssert (.iface 77 (.agg #[])) 59 74 true).run Try.prog w = .ok (.tuple #[.agg #[], .bool false]) w := by kernel_rfl
theorem as_nil_int (w : World) : (Instr.typeAssert .nilIface 59 74 true).run Try.prog w = .ok (.tuple #[.agg #[], .bool false]) w := by kernel_rfl
theorem as_int_bool (w : World) : (Instr.typeAssert (.iface 74 (.agg #[])) 59 75 true).run Try.prog w = .ok (.tuple #[.agg #[], .bool false]) w := by kernel_rfl
theorem as_bool_bool (w : World) : (Instr.typeAssert (.iface 75 (.agg #[])) 59 75 true).run Try.prog w = .ok (.tuple #[.agg #[], .bool true]) w := by kernel_rfl
theorem as_fun_bool (w : World) : (Instr.typeAssert (.iface 76 (.agg #[])) 59 75 true).run Try.prog w = .ok (.tuple #[.agg #[], .bool false]) w := by kernel_rfl
theorem as_code_bool (w : World) : (Instr.typeAssert (.iface 77 (.agg #[])) 59 75 true).run Try.prog w = .ok (.tuple #[.agg #[], .bool false]) w := by kernel_rfl
theorem as_nil_bool (w : World) : (Instr.typeAssert .nilIface 59 75 true).run Try.prog w = .ok (.tuple #[.agg #[], .bool false]) w := by kernel_rfl
theorem as_int_code (w : World) : (Instr.typeAssert (.iface 74 (.agg #[])) 59 77 true).run Try.prog w = .ok (.tuple #[.agg #[], .bool false]) w := by kernel_rfl
theorem as_bool_code (w : World) : (Instr.typeAssert (.iface 75 (.agg #[])) 59 77 true).run Try.prog w = .ok (.tuple #[.agg #[], .bool false]) w := by kernel_rfl
theorem as_fun_code (w : World) : (Instr.typeAssert (.iface 76 (.agg #[])) 59 77 true).run Try.prog w = .ok (.tuple #[.agg #[], .bool false]) w := by kernel_rfl
theorem as_code_code (w : World) : (Instr.typeAssert (.iface 77 (.agg #[])) 59 77 true).run Try.prog w = .ok (.tuple #[.agg #[], .bool true]) w := by kernel_rfl
theorem as_nil_code (w : World) : (Instr.typeAssert .nilIface 59 77 true).run Try.prog w = .ok (.tuple #[.agg #[], .bool false]) w := by kernel_rfl

theorem dec_t {P : Prop} [Decidable P] (h : P) : true = decide P := (decide_eq_true h).symm
theorem dec_f {P : Prop} [Decidable P] (h : ¬ P) : false = decide P := (decide_eq_false h).symm

def Ty.code (t : Ty) : Bool := decide (t.kind = 4 ∧ t.args.length = 1)

set_option maxRecDepth 100000 in
set_option maxHeartbeats 1000000 in
theorem baseI_any {C : Nat → Prop} {t : Ty} {v : Value} {w : World} (h : TT w C t v) :
    Calls Try.prog 41 #[v] w (BoolRet (fun r => r = t.base) w) := by
  obtain ⟨s, rfl, hS⟩ := h
  have hlen := hS.len
  obtain ⟨p, c, rfl⟩ := hS.form
  have HB0 := Lib.hid ((Below.refl w.heap.size w).alloc (Nat.le_refl _) (Obj.cells #[.int .i64 t.kind, .slice p t.args.length c] 41))
  have HV := Lib.hid (show t.base = decide ((t.kind = 1 ∨ t.kind = 2) ∧ t.args.length = 0) from rfl)
  clear hS
  go_enter Try.func41, Try.ntmps41
  go_wp2_with fail
  refine (kindOf_any t.kind p t.args.length c _ hlen).mono ?_
  rintro e w1 ⟨rfl, hb1⟩
  have HB1 := Lib.hid (HB0.out.trans (hb1.mono HB0.out.size))
  clear hb1
  rcases kindV_cases t.kind t.args.length with ⟨hc, hk⟩ | ⟨hc, hk⟩ | ⟨hc, hk⟩ | ⟨hc, hk⟩ | ⟨hc, hk⟩
  all_goals
    rw [hk]
    have HC := Lib.hid hc
    clear hc hk
    have s0 := as_int_int
    have s1 := as_bool_int
    have s2 := as_fun_int
    have s3 := as_code_int
    have s4 := as_nil_int
    have s5 := as_int_bool
    have s6 := as_bool_bool
    have s7 := as_fun_bool
    have s8 := as_code_bool
    have s9 := as_nil_bool
    go_wp2_with fail
    go_ret
    exact ⟨_, by have hc := HC.out; rw [HV.out]; first | exact dec_t (by omega) | exact dec_f (by omega), rfl, HB1.out⟩

end Go.Proofs.Yteoeefmdfalnjaa

