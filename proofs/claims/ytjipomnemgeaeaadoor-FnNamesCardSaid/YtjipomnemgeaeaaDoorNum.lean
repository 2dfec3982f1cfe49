/-
  Plain facts about decimal numerals, of no program: how digits are gathered, what a numeral's bytes are, reading back what was written.
-/
import Derived.Lib.ItoaNum
import Derived.Lib.AtoiAll
namespace Go.Proofs.YtjipomnemgeaeaaDoor
open Go

/-- The digits of m, none for 0. -/
def dec (m : Nat) : List UInt8 := if m = 0 then [] else Lib.decDigits m

theorem dec_zero : dec 0 = [] := rfl
theorem dec_pos {m : Nat} (h : 1 ≤ m) : dec m = Lib.decDigits m := by unfold dec; rw [if_neg (by omega)]
theorem dec_step {m : Nat} (h : 1 ≤ m) : dec (m / 10) ++ [UInt8.ofNat (48 + m % 10)] = dec m := by
  rw [dec_pos h, Lib.decDigits]
  by_cases hm : m < 10
  · rw [dif_pos hm, show m / 10 = 0 by omega, dec_zero, Nat.mod_eq_of_lt hm]; rfl
  · rw [dif_neg hm, dec_pos (by omega)]
theorem dec_put {m : Nat} (h : 1 ≤ m) {l r : List UInt8} (hl : dec m ++ l = r) : dec (m / 10) ++ (UInt8.ofNat (48 + m % 10) :: l) = r := by
  rw [← hl, ← dec_step h, List.append_assoc]; rfl

theorem nDigits_le : ∀ (k u : Nat), 1 ≤ k → u < 10 ^ k → Lib.nDigits u ≤ k
  | 0, _, h, _ => by omega
  | k + 1, u, _, h => by
    by_cases hu : u < 10
    · rw [Lib.nDigits_small hu]; omega
    · rw [Lib.nDigits_big hu]
      have h1 : 1 ≤ k := by
        cases k with
        | zero => simp at h; omega
        | succ k => omega
      have := nDigits_le k (u / 10) h1 (by rw [Nat.pow_succ] at h; omega)
      omega
theorem lt_of_nDigits_le {k u : Nat} (h : Lib.nDigits u ≤ k) : u < 10 ^ k :=
  Nat.lt_of_lt_of_le (Lib.lt_pow_nDigits u) (Nat.pow_le_pow_right (by decide) h)
theorem dec_length_le {u : Nat} (h : u ≤ 9223372036854775808) : (Lib.decDigits u).length ≤ 19 := by
  rw [Lib.decDigits_length]; exact nDigits_le 19 u (by decide) (by simp only [Nat.reducePow]; omega)
theorem itoa_length_le {n : Int} (h0 : -9223372036854775808 ≤ n) (h1 : n ≤ 9223372036854775807) : (Lib.itoa n).length ≤ 20 := by
  unfold Lib.itoa
  split
  · have := dec_length_le (u := n.natAbs) (by omega)
    simp only [List.length_cons]; omega
  · have := dec_length_le (u := n.toNat) (by omega)
    omega

end Go.Proofs.YtjipomnemgeaeaaDoor
