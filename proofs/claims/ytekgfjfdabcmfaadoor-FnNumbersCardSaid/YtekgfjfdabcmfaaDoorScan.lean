/-
  Plain facts, of no program: when a text is a numeral, told by its sign and by the digits that have been read.
-/
import Derived.Test.YtekgfjfdabcmfaaDoorRead
import Derived.Lib.Strings
namespace Go.Proofs.YtekgfjfdabcmfaaDoor
open Go

/-- l is t, behind a '-' or without one. -/
def Tl (neg : Bool) (l t : List UInt8) : Prop := if neg then l = 45 :: t else l = t ∧ l.head? ≠ some 45
def sg (neg : Bool) (N : Nat) : Int := if neg then -(N : Int) else N

theorem tl_itoa {neg : Bool} {l t : List UInt8} (h : Tl neg l t) {n : Int} (e : Lib.itoa n = l) : Lib.decDigits n.natAbs = t ∧ n = sg neg n.natAbs := by
  unfold Lib.itoa at e
  cases neg with
  | true =>
    simp only [Tl, if_true] at h
    subst h
    by_cases hn : n < 0
    · rw [if_pos hn] at e
      injection e with _ e
      refine ⟨e, ?_⟩
      simp only [sg, if_true]; omega
    · rw [if_neg hn] at e
      have := dec_head n.toNat
      rw [e] at this
      exact absurd (List.head?_cons ..) this
  | false =>
    simp only [Tl, Bool.false_eq_true, if_false] at h
    obtain ⟨rfl, h⟩ := h
    by_cases hn : n < 0
    · rw [if_pos hn] at e
      rw [← e] at h
      exact absurd (List.head?_cons ..) h
    · rw [if_neg hn] at e
      have hz : n.natAbs = n.toNat := by omega
      rw [hz]
      refine ⟨e, ?_⟩
      simp only [sg, Bool.false_eq_true, if_false]; omega

/-- How the model's reader ends: with the number whose numeral the text is, or with 0 and false where there is none of at most so many digits. -/
def ReadOut (l : List UInt8) (m : Nat) (e : Ending) : Prop :=
  (∃ n : Int, e = .returned (.tuple #[.int .i64 n, .bool true]) ∧ Lib.itoa n = l ∧ n.natAbs < 10 ^ m) ∨
  (e = .returned (.tuple #[.int .i64 0, .bool false]) ∧ ∀ n : Int, n.natAbs < 10 ^ m → Lib.itoa n ≠ l)

theorem out_nil {m : Nat} {l : List UInt8} (hl : l = []) : ReadOut l m (.returned (.tuple #[.int .i64 0, .bool false])) := by
  refine Or.inr ⟨rfl, fun n _ e => ?_⟩
  rw [hl] at e
  unfold Lib.itoa at e
  split at e
  · cases e
  · exact dec_ne_nil _ e
theorem out_size {neg : Bool} {m : Nat} {l t : List UInt8} (h : Tl neg l t) (hm : 1 ≤ m) (hl : t.length < 1 ∨ m < t.length) : ReadOut l m (.returned (.tuple #[.int .i64 0, .bool false])) := by
  refine Or.inr ⟨rfl, fun n hn e => ?_⟩
  have h1 := (tl_itoa h e).1
  have h2 := Lib.decDigits_length n.natAbs
  have h3 := Lib.nDigits_pos n.natAbs
  have h4 := nDigits_le m n.natAbs hm hn
  rw [h1] at h2
  omega
theorem out_char {neg : Bool} {m : Nat} {l t : List UInt8} (h : Tl neg l t) {c : UInt8} (hc : c ∈ t) (hd : ¬ isDig c) : ReadOut l m (.returned (.tuple #[.int .i64 0, .bool false])) := by
  refine Or.inr ⟨rfl, fun n _ e => ?_⟩
  have h1 := (tl_itoa h e).1
  rw [← h1] at hc
  exact hd (dec_digs _ c hc)
theorem out_ne {neg : Bool} {m : Nat} {l t : List UInt8} (h : Tl neg l t) (hne : ¬ Lib.itoa (sg neg (rdA 0 t)) = l) : ReadOut l m (.returned (.tuple #[.int .i64 0, .bool false])) := by
  refine Or.inr ⟨rfl, fun n _ e => hne ?_⟩
  have h1 := tl_itoa h e
  have h2 : rdA 0 t = n.natAbs := by rw [← h1.1, rdA_dec]
  rw [h2, ← h1.2]; exact e
theorem out_eq {neg : Bool} {m : Nat} {l t : List UInt8} (hd : ∀ c ∈ t, isDig c) (hm : t.length ≤ m) (he : Lib.itoa (sg neg (rdA 0 t)) = l) : ReadOut l m (.returned (.tuple #[.int .i64 (sg neg (rdA 0 t)), .bool true])) := by
  refine Or.inl ⟨_, rfl, he, ?_⟩
  have h1 := rdA_lt t hd
  have h2 : 10 ^ t.length ≤ 10 ^ m := Nat.pow_le_pow_right (by decide) hm
  have h3 : (sg neg (rdA 0 t)).natAbs = rdA 0 t := by unfold sg; split <;> omega
  omega

theorem take_snoc (s : ByteArray) (k : Nat) (h : k < s.size) : s.data.toList.take (k + 1) = s.data.toList.take k ++ [s[k]] := by
  rw [List.take_succ_eq_append_getElem (by simpa using h)]; rfl
theorem mem_bytes (s : ByteArray) (k : Nat) (h : k < s.size) : s[k] ∈ s.data.toList := by
  have : s[k] = s.data.toList[k]'(by simpa using h) := rfl
  rw [this]; exact List.getElem_mem _
/-- k digits have been read: they spell N. -/
def Spelt (l : List UInt8) (k N : Nat) : Prop := N = rdA 0 (l.take k) ∧ ∀ c ∈ l.take k, isDig c
theorem spelt_zero (l : List UInt8) : Spelt l 0 0 := ⟨by rw [List.take_zero, rdA_nil], fun c hc => by simp at hc⟩
theorem spelt_bd {l : List UInt8} {k N : Nat} (h : Spelt l k N) (hk : k ≤ 17) : (N : Int) ≤ 100000000000000000 := by
  have h1 := rdA_lt (l.take k) h.2
  rw [← h.1] at h1
  have h2 : 10 ^ (l.take k).length ≤ 10 ^ 17 := Nat.pow_le_pow_right (by decide) (by have := List.length_take_le k l; omega)
  simp only [Nat.reducePow] at h2
  omega
theorem spelt_step {s : ByteArray} {k N : Nat} (h : Spelt s.data.toList k N) (hk : k < s.size) (hd : isDig s[k]) : Spelt s.data.toList (k + 1) (10 * N + (s[k].toNat - 48)) := by
  refine ⟨?_, ?_⟩
  · rw [take_snoc s k hk, rdA_snoc, ← h.1]
  · rw [take_snoc s k hk]
    intro c hc
    rcases List.mem_append.1 hc with hc | hc
    · exact h.2 c hc
    · rw [List.mem_singleton.1 hc]; exact hd
theorem spelt_all {l : List UInt8} {k N : Nat} (h : Spelt l k N) (hk : l.length ≤ k) : rdA 0 l = N ∧ ∀ c ∈ l, isDig c := by
  unfold Spelt at h
  rw [List.take_of_length_le hk] at h
  exact ⟨h.1.symm, h.2⟩
theorem size_len (s : ByteArray) : s.data.toList.length = s.size := by simp
theorem tl_neg {s : ByteArray} (hlt : 0 < s.size) (h : ((s[0].toNat : Int) == 45) = true) : Tl true s.data.toList (s.extract 1 s.size).data.toList := by
  have h0 : s[0] = 45 := by
    have : s[0].toNat = 45 := by have := beq_iff_eq.1 h; omega
    exact UInt8.toNat_inj.1 this
  clear h
  simp only [Tl, if_true]
  rw [Lib.extract_data, Lib.size_eq]
  obtain ⟨⟨l⟩⟩ := s
  cases l with
  | nil => exact absurd hlt (by decide)
  | cons c r =>
    have e : c = 45 := h0
    rw [e]
    simp
theorem tl_pos {s : ByteArray} (hlt : 0 < s.size) (h : ((s[0].toNat : Int) == 45) = false) : Tl false s.data.toList s.data.toList := by
  have h0 : s[0].toNat ≠ 45 := by have := beq_eq_false_iff_ne.1 h; omega
  clear h
  simp only [Tl, Bool.false_eq_true, if_false, true_and]
  obtain ⟨⟨l⟩⟩ := s
  cases l with
  | nil => exact absurd hlt (by decide)
  | cons c r =>
    have e : c.toNat ≠ 45 := h0
    intro hh
    have e2 : c = 45 := by simpa using hh
    rw [e2] at e
    exact e rfl
end Go.Proofs.YtekgfjfdabcmfaaDoor
