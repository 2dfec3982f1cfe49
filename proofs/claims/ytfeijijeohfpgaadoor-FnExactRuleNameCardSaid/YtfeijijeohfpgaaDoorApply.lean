/-
  The contracts of ApplyOp, the program's and the model's, and the walk of the law on it.
-/
import Derived.Test.YtfeijijeohfpgaaDoorReduce
namespace Go.Proofs.YtfeijijeohfpgaaDoor
open Go Go.RowKit

def bit (x : Bool) : Int := if x then 1 else 0
/-- What an operation gives at two numbers of the language. -/
def apOp (op : ByteArray) (a b : Int) : Int × Bool :=
  if op.toList == [43] then ((a + b) % 10007, true)
  else if op.toList == [45] then ((a - b) % 10007, true)
  else if op.toList == [42] then ((a * b) % 10007, true)
  else if op.toList == [61] then (bit (a == b), true)
  else if op.toList == [60] then (bit (decide (a < b)), true)
  else if op.toList == [38] then (bit (a == 1 && b == 1), true)
  else if op.toList == [124] then (bit (a == 1 || b == 1), true)
  else if op.toList == [33] then (bit (a == 0), true)
  else (0, false)
def ap (op : ByteArray) (a b : Int) : Int × Bool := if 0 ≤ a ∧ a < 10007 ∧ 0 ≤ b ∧ b < 10007 then apOp op a b else (0, false)
def pairOf (p : Int × Bool) : Value := .tuple #[.int .i64 p.1, .bool p.2]

theorem in_any (n lo hi : Int) (w : World) : Calls Tryd.prog 53 #[.int .i64 n, .int .i64 lo, .int .i64 hi] w fun e w' => e = .returned (.bool (decide (lo ≤ n ∧ n ≤ hi))) ∧ w' = w := by
  obtain ⟨r, hr⟩ : ∃ r, r = decide (lo ≤ n ∧ n ≤ hi) := ⟨_, rfl⟩
  rw [← hr]
  by_cases h : lo ≤ n
  · have e : decide (n ≤ hi) = r := by rw [hr]; simp [h]
    have t : decide (lo ≤ n) = true := by simpa using h
    have E := Lib.hid e
    clear e hr
    go_enter Tryd.func53, Tryd.ntmps53
    go_wp2
    go_ret
    exact ⟨by rw [← E.out]; rfl, rfl⟩
  · have e : false = r := by rw [hr]; simp [h]
    have t : decide (lo ≤ n) = false := by simpa using h
    subst e
    clear hr
    go_enter Tryd.func53, Tryd.ntmps53
    go_wp2
    go_ret
    exact ⟨rfl, rfl⟩

/-- One of the numbers of the language. -/
def Num (a : Int) : Prop := 0 ≤ a ∧ a < 10007
theorem redI_num (a : Int) (w : World) (h : Num a) : Calls Tryd.prog 68 #[.int .i64 a] w fun e w' => e = .returned (.int .i64 a) ∧ w' = w := by
  have h1 := redI_any a w
  rw [show a % 10007 = a from Int.emod_eq_of_lt h.1 h.2] at h1
  exact h1
theorem redI_not (a : Int) (w : World) (h : ¬ Num a) : Calls Tryd.prog 68 #[.int .i64 a] w fun e w' => ∃ r : Int, (a != r) = true ∧ e = .returned (.int .i64 r) ∧ w' = w :=
  (redI_any a w).mono fun e w' ⟨he, hw⟩ => ⟨a % 10007, by
    rw [bne_iff_ne]
    intro hc
    exact h ⟨by omega, by omega⟩, he, hw⟩

theorem mul_in {a b : Int} (ha : 0 ≤ a) (ha1 : a < 10007) (hb : 0 ≤ b) (hb1 : b < 10007) : wrap64 (a * b) = a * b := by
  have h1 := Int.mul_nonneg ha hb
  have h2 := Int.mul_le_mul (show a ≤ 10006 by omega) (show b ≤ 10006 by omega) hb (by decide)
  unfold wrap64
  omega

theorem in_num (a : Int) (w : World) (h : Num a) : Calls Tryd.prog 53 #[.int .i64 a, .int .i64 0, .int .i64 10006] w fun e w' => e = .returned (.bool true) ∧ w' = w := by
  have h1 := in_any a 0 10006 w
  rw [show decide (0 ≤ a ∧ a ≤ 10006) = true from decide_eq_true ⟨h.1, by have := h.2; omega⟩] at h1
  exact h1
theorem in_not (a : Int) (w : World) (h : ¬ Num a) : Calls Tryd.prog 53 #[.int .i64 a, .int .i64 0, .int .i64 10006] w fun e w' => e = .returned (.bool false) ∧ w' = w := by
  have h1 := in_any a 0 10006 w
  rw [show decide (0 ≤ a ∧ a ≤ 10006) = false from decide_eq_false (fun hc => h ⟨hc.1, by have := hc.2; omega⟩)] at h1
  exact h1

end Go.Proofs.YtfeijijeohfpgaaDoor

