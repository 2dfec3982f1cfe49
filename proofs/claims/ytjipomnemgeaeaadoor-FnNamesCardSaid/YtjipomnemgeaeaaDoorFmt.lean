/-
  The contract of the model's FormatInt: it returns the decimal numeral and leaves what was there as it was.
-/
import Derived.Test.YtjipomnemgeaeaaDoorProg
import Derived.Test.YtjipomnemgeaeaaDoorPut
import Derived.Test.YtjipomnemgeaeaaDoorKit
namespace Go.Proofs.YtjipomnemgeaeaaDoor
open Go Go.RowKit

set_option maxRecDepth 100000 in
set_option maxHeartbeats 400000 in
theorem fmt_pos (N : Nat) (h1 : 1 ≤ N) (h2 : N ≤ 9223372036854775807) (w : World) :
    Calls Tryd.prog 35 #[.int .i64 N] w fun e w' => e = .returned (.string ⟨(Lib.decDigits N).toArray⟩) ∧ Below w.heap.size w w' := by
  have t1 : ((N : Int) == 0) = false := by rw [beq_eq_false_iff_ne]; omega
  have t2 : decide ((N : Int) < 0) = false := by simp
  go_enter Tryd.func35, Tryd.ntmps35
  go_wp2
  go_loopw [0, 4] (fun n out wr => ∃ (m : Nat) (l : List UInt8), m ≤ N ∧ n = .int .i64 m ∧ out = .string ⟨l.toArray⟩ ∧ dec m ++ l = Lib.decDigits N ∧ Below w.heap.size w wr) (fun n _ _ => (intOf n).toNat)
  case atStart => exact ⟨N, [], Nat.le_refl _, rfl, rfl, by rw [dec_pos h1, List.append_nil], Below.refl _ _⟩
  case round =>
    obtain ⟨m, l, hm, rfl, rfl, hl, hb⟩ := hrel
    have hll : l.length ≤ 19 := by
      have e := congrArg List.length hl
      rw [List.length_append] at e
      have := dec_length_le (u := N) (by omega)
      omega
    have HL := Lib.hid hl
    clear hl
    by_cases hz : m = 0
    · subst hz
      go_wp2
      go_ret
      have e := HL.out
      rw [dec_zero, List.nil_append] at e
      exact ⟨ret_str e, hb⟩
    · have t3 : ((m : Int) != 0) = true := by rw [bne_iff_ne]; omega
      have kc := run_string_byte (P := Tryd.prog) wr 22 9 5 (48 + (m : Int) % 10) (by omega) (by omega) Tryd.underlying22 Tryd.underlying5 Tryd.underlying9
      go_wp2
      go_roundw
      case rel => exact ⟨m / 10, _, by omega, by go_num, (rel_put m hz HL.out).1, (rel_put m hz HL.out).2, hb.alloc hb.size _⟩
      case measure => simp [intOf]; omega

theorem rel_put0 (m : Nat) (h : ¬ m = 0) (hd : m % 10 = 0) {l r : List UInt8} (hl : dec m ++ l = r) :
    Value.string ((⟨#[UInt8.ofNat (48 + -((m : Int) % 10)).toNat]⟩ : ByteArray) ++ ⟨l.toArray⟩) = Value.string ⟨(UInt8.ofNat (48 + m % 10) :: l).toArray⟩ ∧ dec (m / 10) ++ (UInt8.ofNat (48 + m % 10) :: l) = r := by
  refine ⟨?_, dec_put (by omega) hl⟩
  rw [str_cons, show (48 + -((m : Int) % 10)).toNat = 48 + m % 10 by omega]
theorem ret_minus {a b : List UInt8} (h : a = b) : Ending.returned (.string ((⟨#[45]⟩ : ByteArray) ++ ⟨a.toArray⟩)) = Ending.returned (.string ⟨(45 :: b).toArray⟩) := by rw [h, str_cons]

set_option maxRecDepth 100000 in
set_option maxHeartbeats 400000 in
theorem fmt_neg (N : Nat) (h1 : 1 ≤ N) (h2 : N ≤ 9223372036854775808) (w : World) :
    Calls Tryd.prog 35 #[.int .i64 (-(N : Int))] w fun e w' => e = .returned (.string ⟨(45 :: Lib.decDigits N).toArray⟩) ∧ Below w.heap.size w w' := by
  have t1 : ((-(N : Int)) == 0) = false := by rw [beq_eq_false_iff_ne]; omega
  have t2 : decide (0 < N) = true := by simp; omega
  go_enter Tryd.func35, Tryd.ntmps35
  go_wp2
  go_loopw [0, 4] (fun n out wr => ∃ (m : Nat) (l : List UInt8), m ≤ N ∧ n = .int .i64 (-(m : Int)) ∧ out = .string ⟨l.toArray⟩ ∧ dec m ++ l = Lib.decDigits N ∧ Below w.heap.size w wr) (fun n _ _ => (-(intOf n)).toNat)
  case atStart => exact ⟨N, [], Nat.le_refl _, rfl, rfl, by rw [dec_pos h1, List.append_nil], Below.refl _ _⟩
  case round =>
    obtain ⟨m, l, hm, rfl, rfl, hl, hb⟩ := hrel
    have hll : l.length ≤ 19 := by
      have e := congrArg List.length hl
      rw [List.length_append] at e
      have := dec_length_le (u := N) (by omega)
      omega
    have HL := Lib.hid hl
    clear hl
    by_cases hz : m = 0
    · subst hz
      go_wp2
      go_ret
      have e := HL.out
      rw [dec_zero, List.nil_append] at e
      exact ⟨ret_minus e, hb⟩
    · have t3 : ((-(m : Int)) != 0) = true := by rw [bne_iff_ne]; omega
      by_cases hd : m % 10 = 0
      · have kc := run_string_byte (P := Tryd.prog) wr 22 9 5 (48 + -((m : Int) % 10)) (by omega) (by omega) Tryd.underlying22 Tryd.underlying5 Tryd.underlying9
        go_wp2
        go_roundw
        case rel => exact ⟨m / 10, _, by omega, by go_num, (rel_put0 m hz hd HL.out).1, (rel_put0 m hz hd HL.out).2, hb.alloc hb.size _⟩
        case measure => simp [intOf]; omega
      · have kc := run_string_byte (P := Tryd.prog) wr 22 9 5 (48 + (m : Int) % 10) (by omega) (by omega) Tryd.underlying22 Tryd.underlying5 Tryd.underlying9
        go_wp2
        go_roundw
        case rel => exact ⟨m / 10, _, by omega, by go_num, (rel_put m hz HL.out).1, (rel_put m hz HL.out).2, hb.alloc hb.size _⟩
        case measure => simp [intOf]; omega

set_option maxHeartbeats 400000 in
theorem fmt_zero (w : World) :
    Calls Tryd.prog 35 #[.int .i64 0] w fun e w' => e = .returned (.string ⟨(Lib.decDigits 0).toArray⟩) ∧ Below w.heap.size w w' := by
  have e : Lib.decDigits 0 = [48] := by rw [Lib.decDigits]; rfl
  have E := Lib.hid e
  clear e
  go_enter Tryd.func35, Tryd.ntmps35
  go_wp2
  go_ret
  exact ⟨by rw [E.out]; rfl, Below.refl _ _⟩

/-- THE MODEL's FormatInt, AT EVERY int. -/
theorem fmt_any (n : Int) (h0 : -9223372036854775808 ≤ n) (h1 : n ≤ 9223372036854775807) (w : World) :
    Calls Tryd.prog 35 #[.int .i64 n] w fun e w' => e = .returned (.string ⟨(Lib.itoa n).toArray⟩) ∧ Below w.heap.size w w' := by
  unfold Lib.itoa
  by_cases hn : n < 0
  · rw [if_pos hn]
    have h := fmt_neg n.natAbs (by omega) (by omega) w
    rw [show (-(n.natAbs : Int)) = n by omega] at h
    exact h
  · rw [if_neg hn]
    by_cases hz : n = 0
    · subst hz; exact fmt_zero w
    · have h := fmt_pos n.toNat (by omega) (by omega) w
      rw [show ((n.toNat : Nat) : Int) = n by omega] at h
      exact h
#print axioms fmt_any
end Go.Proofs.YtjipomnemgeaeaaDoor
