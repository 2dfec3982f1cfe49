/-
  Plain facts about reading numerals, of no program: what a numeral reads as, and that each number's numeral reads as that number.
-/
import Derived.Test.YtjipomnemgeaeaaDoorNum
namespace Go.Proofs.YtjipomnemgeaeaaDoor
open Go

/-- One digit more. -/
def rdA (acc : Nat) (l : List UInt8) : Nat := l.foldl (fun a c => 10 * a + (c.toNat - 48)) acc
def isDig (c : UInt8) : Prop := 48 ≤ c.toNat ∧ c.toNat ≤ 57
instance (c : UInt8) : Decidable (isDig c) := by unfold isDig; infer_instance

theorem rdA_nil (a : Nat) : rdA a [] = a := by simp only [rdA, List.foldl_nil]
theorem rdA_cons (a : Nat) (c : UInt8) (l : List UInt8) : rdA a (c :: l) = rdA (10 * a + (c.toNat - 48)) l := by simp only [rdA, List.foldl_cons]
theorem rdA_snoc (a : Nat) (c : UInt8) (l : List UInt8) : rdA a (l ++ [c]) = 10 * rdA a l + (c.toNat - 48) := by
  simp only [rdA, List.foldl_append, List.foldl_cons, List.foldl_nil]
theorem le_rdA : ∀ (l : List UInt8) (a : Nat), a ≤ rdA a l
  | [], a => Nat.le_refl _
  | c :: l, a => by
    rw [rdA_cons]
    have := le_rdA l (10 * a + (c.toNat - 48))
    omega
theorem rdA_lt (l : List UInt8) (h : ∀ c ∈ l, isDig c) : rdA 0 l < 10 ^ l.length := by
  suffices H : ∀ (l : List UInt8) (a : Nat), (∀ c ∈ l, isDig c) → rdA a l < (a + 1) * 10 ^ l.length by
    have := H l 0 h
    simpa using this
  intro l
  induction l with
  | nil => intro a _; simp [rdA_nil]
  | cons c l ih =>
    intro a h
    rw [rdA_cons, List.length_cons, Nat.pow_succ]
    have hc := h c (List.mem_cons_self ..)
    unfold isDig at hc
    have h1 := ih (10 * a + (c.toNat - 48)) (fun x hx => h x (List.mem_cons_of_mem _ hx))
    have h2 : (10 * a + (c.toNat - 48) + 1) * 10 ^ l.length ≤ ((a + 1) * 10) * 10 ^ l.length := Nat.mul_le_mul_right _ (by omega)
    have h3 : (a + 1) * (10 ^ l.length * 10) = ((a + 1) * 10) * 10 ^ l.length := by
      rw [Nat.mul_comm (10 ^ l.length) 10, Nat.mul_assoc]
    omega

theorem dig_toNat {k : Nat} (h : k < 10) : (UInt8.ofNat (48 + k)).toNat = 48 + k := by simp; omega
theorem dec_digs (u : Nat) : ∀ c ∈ Lib.decDigits u, isDig c := by
  induction u using Nat.strongRecOn with
  | _ u ih =>
    intro c hc
    rw [Lib.decDigits] at hc
    by_cases hu : u < 10
    · rw [dif_pos hu] at hc
      have e : c = UInt8.ofNat (48 + u) := by simpa using hc
      subst e
      unfold isDig
      rw [dig_toNat hu]; omega
    · rw [dif_neg hu] at hc
      rcases List.mem_append.1 hc with h | h
      · exact ih (u / 10) (by omega) c h
      · have e : c = UInt8.ofNat (48 + u % 10) := List.mem_singleton.1 h
        subst e
        unfold isDig
        rw [dig_toNat (by omega)]; omega
theorem rdA_dec (u : Nat) : rdA 0 (Lib.decDigits u) = u := by
  induction u using Nat.strongRecOn with
  | _ u ih =>
    rw [Lib.decDigits]
    by_cases hu : u < 10
    · rw [dif_pos hu, rdA_cons, rdA_nil, dig_toNat hu]; omega
    · rw [dif_neg hu, rdA_snoc, ih (u / 10) (by omega), dig_toNat (by omega)]; omega
theorem dec_ne_nil (u : Nat) : Lib.decDigits u ≠ [] := by
  intro h
  have := Lib.decDigits_length u
  rw [h] at this
  have := Lib.nDigits_pos u
  simp at *
  omega

/-- What a text reads as, a '-' ahead of it or not; of a text that is no numeral nothing is meant. -/
def rd (l : List UInt8) : Int := if l.head? = some 45 then -(rdA 0 l.tail : Int) else rdA 0 l

theorem dec_head (u : Nat) : (Lib.decDigits u).head? ≠ some 45 := by
  intro h
  have := dec_digs u 45 (List.mem_of_mem_head? h)
  unfold isDig at this
  exact absurd this (by decide)
theorem rd_itoa (n : Int) : rd (Lib.itoa n) = n := by
  unfold Lib.itoa
  by_cases hn : n < 0
  · rw [if_pos hn]
    unfold rd
    rw [if_pos (List.head?_cons ..), List.tail_cons, rdA_dec]; omega
  · rw [if_neg hn]
    unfold rd
    rw [if_neg (dec_head _), rdA_dec]; omega

/-- Is the text the numeral of a number from lo to hi? -/
def okNum (lo hi : Int) (l : List UInt8) : Bool := decide (lo ≤ rd l ∧ rd l ≤ hi ∧ Lib.itoa (rd l) = l)
theorem okNum_yes {lo hi : Int} {l : List UInt8} (h : okNum lo hi l = true) : lo ≤ rd l ∧ rd l ≤ hi ∧ Lib.itoa (rd l) = l := of_decide_eq_true h
theorem okNum_no {lo hi : Int} {l : List UInt8} (h : okNum lo hi l = false) : ¬ (lo ≤ rd l ∧ rd l ≤ hi ∧ Lib.itoa (rd l) = l) := of_decide_eq_false h
theorem okNum_mk {lo hi n : Int} {l : List UInt8} (h : Lib.itoa n = l) (h0 : lo ≤ n) (h1 : n ≤ hi) : okNum lo hi l = true := by
  unfold okNum
  rw [← h, rd_itoa]
  exact decide_eq_true ⟨h0, h1, rfl⟩

/-! ### strconv.Atoi gives back what Itoa wrote -/
theorem parse10_digs : ∀ (l : List UInt8) (a : Nat), (∀ c ∈ l, isDig c) → rdA a l < 18446744073709551616 → Lib.parseUint10 a l = .ok (rdA a l)
  | [], a, _, _ => rfl
  | c :: l, a, h, hlt => by
    rw [rdA_cons] at hlt ⊢
    have hc := h c (List.mem_cons_self ..)
    have h1 := le_rdA l (10 * a + (c.toNat - 48))
    unfold isDig at hc
    rw [Lib.parseUint10, if_pos hc, if_neg (by omega), if_neg (by omega), show a * 10 + (c.toNat - 48) = 10 * a + (c.toNat - 48) by omega]
    exact parse10_digs l _ (fun x hx => h x (List.mem_cons_of_mem _ hx)) hlt
theorem parseMag_dec {u : Nat} (h : u < 18446744073709551616) : Lib.parseMag (Lib.decDigits u) = .ok u := by
  unfold Lib.parseMag
  rw [if_neg (dec_ne_nil u), parse10_digs _ 0 (dec_digs u) (by rw [rdA_dec]; exact h), rdA_dec]
theorem atoi_itoa (n : Int) (h0 : -9223372036854775808 ≤ n) (h1 : n ≤ 9223372036854775807) : Lib.atoiAll (Lib.itoa n) = .ok n := by
  unfold Lib.itoa
  by_cases hn : n < 0
  · rw [if_pos hn]
    unfold Lib.atoiAll
    have e1 : (45 : UInt8).toNat = 45 := rfl
    simp only [e1, or_true, if_true, not_true_eq_false, false_and, if_false, true_and]
    rw [parseMag_dec (by omega)]
    dsimp only
    rw [if_neg (by omega)]
    congr 1
    omega
  · rw [if_neg hn]
    have hp := parseMag_dec (u := n.toNat) (by omega)
    have hne := dec_ne_nil n.toNat
    have hd := dec_digs n.toNat
    generalize Lib.decDigits n.toNat = d at *
    cases d with
    | nil => exact absurd rfl hne
    | cons c r =>
      have hc := hd c (List.mem_cons_self ..)
      unfold isDig at hc
      unfold Lib.atoiAll
      have a1 : ¬ c.toNat = 45 := by omega
      have a2 : ¬ c.toNat = 43 := by omega
      simp only [a1, a2, or_self, if_false, not_false_eq_true, true_and, false_and]
      rw [hp]
      dsimp only
      rw [if_neg (by omega)]
      congr 1
      omega
end Go.Proofs.YtjipomnemgeaeaaDoor
