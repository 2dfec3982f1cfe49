/-
  Plain facts, of no program: a list of bytes cut at each occurrence of one byte; that the library's split is that cut; that the pieces, put together, are the list.
-/
import Derived.Lib.Split
import Derived.Lib.SplitLaws
import Derived.Lib.IndexBytes
import Derived.Lib.Join
namespace Go.Proofs.YtekgfjfdabcmfaaDoor
open Go

/-- cur stands in front of the first piece. -/
def onFirst (cur : List UInt8) : List (List UInt8) → List (List UInt8)
  | [] => [cur]
  | p :: ps => (cur ++ p) :: ps
/-- l, cut at each c. -/
def cutL (c : UInt8) : List UInt8 → List (List UInt8)
  | [] => [[]]
  | b :: r => if b = c then [] :: cutL c r else onFirst [b] (cutL c r)
def cutA (c : UInt8) (cur rest : List UInt8) : List (List UInt8) := onFirst cur (cutL c rest)

theorem cutL_ne (c : UInt8) (l : List UInt8) : cutL c l ≠ [] := by
  cases l with
  | nil => simp [cutL]
  | cons b r =>
    unfold cutL
    split
    · simp
    · cases cutL c r <;> simp [onFirst]
theorem onFirst_nil (x : List (List UInt8)) (h : x ≠ []) : onFirst [] x = x := by
  cases x with
  | nil => exact absurd rfl h
  | cons p ps => rfl
theorem onFirst_onFirst (a b : List UInt8) (x : List (List UInt8)) : onFirst a (onFirst b x) = onFirst (a ++ b) x := by
  cases x with
  | nil => rfl
  | cons p ps => simp [onFirst, List.append_assoc]
theorem cutA_start (c : UInt8) (l : List UInt8) : cutA c [] l = cutL c l := onFirst_nil _ (cutL_ne c l)
theorem cutA_end (c : UInt8) (cur : List UInt8) : cutA c cur [] = [cur] := by simp [cutA, cutL, onFirst]
theorem cutA_hit (c : UInt8) (cur r : List UInt8) : cutA c cur (c :: r) = cur :: cutA c [] r := by
  rw [cutA_start]
  simp [cutA, cutL, onFirst]
theorem cutA_step (c b : UInt8) (cur r : List UInt8) (h : b ≠ c) : cutA c cur (b :: r) = cutA c (cur ++ [b]) r := by
  simp only [cutA, cutL, if_neg h, onFirst_onFirst]

/-! ### the library's split -/
theorem splitK_ne (c b : UInt8) (r : List UInt8) (h : b ≠ c) (k : Nat) : Lib.splitK [c] 0 k (b :: r) = onFirst [b] (Lib.splitK [c] 0 k r) := by
  cases k with
  | zero => simp [Lib.splitK, onFirst]
  | succ k =>
    have hbc : (b == c) = false := beq_eq_false_iff_ne.2 h
    have e1 : Lib.index (b :: r) [c] = if Lib.index r [c] == -1 then -1 else Lib.index r [c] + 1 := by
      rw [Lib.index_one, Lib.index_one, Lib.indexByte, hbc]
      rfl
    have hge := Lib.index_ge r [c]
    by_cases hm : Lib.index r [c] = -1
    · rw [if_pos (by rw [hm]; rfl)] at e1
      simp only [Lib.splitK, e1, hm, beq_self_eq_true, if_true]
      rfl
    · rw [if_neg (by simpa using hm)] at e1
      obtain ⟨i, hi⟩ : ∃ i : Nat, Lib.index r [c] = i := ⟨(Lib.index r [c]).toNat, by omega⟩
      rw [hi] at e1
      have n1 : ¬ (((i : Int) == -1) = true) := by simp
      have n2 : ¬ (((i : Int) + 1 == -1) = true) := by simp; omega
      unfold Lib.splitK
      rw [e1, hi, if_neg n1, if_neg n2]
      have t1 : ((i : Int) + 1).toNat = i + 1 := by omega
      rw [t1]
      simp [onFirst]
theorem splitK_cut (c : UInt8) : ∀ l : List UInt8, Lib.splitK [c] 0 (Lib.count l [c]) l = cutL c l
  | [] => by rw [Lib.count_one]; rfl
  | b :: r => by
    by_cases h : b = c
    · subst h
      have e0 : Lib.index (b :: r) [b] = 0 := by rw [Lib.index_one, Lib.indexByte, beq_self_eq_true]; rfl
      rw [Lib.count_cons_eq, Nat.add_comm, Lib.splitK, e0, if_neg (by decide)]
      simp only [Int.toNat_zero, Nat.add_zero, List.take_zero, List.length_singleton, Nat.zero_add, List.drop_succ_cons, List.drop_zero]
      rw [splitK_cut b r, cutL, if_pos rfl]
    · rw [Lib.count_cons_ne b c r h, splitK_ne c b r h, splitK_cut c r, cutL, if_neg h]

/-! ### the pieces -/
theorem join_onFirst (sep cur : List UInt8) (x : List (List UInt8)) (h : x ≠ []) : Lib.join (onFirst cur x) sep = cur ++ Lib.join x sep := by
  cases x with
  | nil => exact absurd rfl h
  | cons p ps => simp only [onFirst, Lib.join_cons, List.append_assoc]
theorem join_cut (c : UInt8) : ∀ l : List UInt8, Lib.join (cutL c l) [c] = l
  | [] => by simp [cutL, Lib.join_one]
  | b :: r => by
    unfold cutL
    split
    · rename_i h
      subst h
      have hne := cutL_ne b r
      have ih := join_cut b r
      cases hx : cutL b r with
      | nil => exact absurd hx hne
      | cons p ps =>
        rw [hx, Lib.join_cons] at ih
        rw [Lib.join_cons]
        simp only [Lib.joinTail, List.map_cons, List.flatten_cons, List.nil_append, List.append_assoc]
        rw [show (List.map (fun x => [b] ++ x) ps).flatten = Lib.joinTail [b] ps from rfl, ih]
        rfl
    · rw [join_onFirst _ _ _ (cutL_ne c r), join_cut c r]
      rfl
theorem cut_free (c : UInt8) : ∀ l : List UInt8, c ∉ l → cutL c l = [l]
  | [], _ => rfl
  | b :: r, h => by
    have h1 : b ≠ c := fun e => h (by rw [e]; exact List.mem_cons_self ..)
    have h2 : c ∉ r := fun e => h (List.mem_cons_of_mem _ e)
    rw [cutL, if_neg h1, cut_free c r h2]
    rfl
theorem piece_free (c : UInt8) : ∀ l : List UInt8, ∀ p ∈ cutL c l, c ∉ p
  | [], p, h => by
    have e : p = [] := by simpa [cutL] using h
    rw [e]; simp
  | b :: r, p, h => by
    unfold cutL at h
    split at h
    · rcases List.mem_cons.1 h with e | h
      · rw [e]; simp
      · exact piece_free c r p h
    · rename_i hb
      have ih := piece_free c r
      cases hx : cutL c r with
      | nil => exact absurd hx (cutL_ne c r)
      | cons q qs =>
        rw [hx] at h ih
        rcases List.mem_cons.1 h with e | h
        · rw [e]
          intro hc
          rcases List.mem_append.1 hc with hc | hc
          · exact hb (List.mem_singleton.1 hc).symm
          · exact ih q (List.mem_cons_self ..) hc
        · exact ih p (List.mem_cons_of_mem _ h)
theorem piece_len (c : UInt8) : ∀ l : List UInt8, ∀ p ∈ cutL c l, p.length ≤ l.length
  | [], p, h => by
    have e : p = [] := by simpa [cutL] using h
    rw [e]; exact Nat.le_refl _
  | b :: r, p, h => by
    unfold cutL at h
    split at h
    · rcases List.mem_cons.1 h with e | h
      · rw [e]; simp
      · have := piece_len c r p h
        simp only [List.length_cons]; omega
    · have ih := piece_len c r
      cases hx : cutL c r with
      | nil => exact absurd hx (cutL_ne c r)
      | cons q qs =>
        rw [hx] at h ih
        rcases List.mem_cons.1 h with e | h
        · rw [e]
          have := ih q (List.mem_cons_self ..)
          simp only [List.length_append, List.length_cons, List.length_nil]; omega
        · have := ih p (List.mem_cons_of_mem _ h)
          simp only [List.length_cons]; omega
theorem cut_length (c : UInt8) (l : List UInt8) : (cutL c l).length ≤ l.length + 1 := by
  induction l with
  | nil => simp [cutL]
  | cons b r ih =>
    unfold cutL
    split
    · simp only [List.length_cons]; omega
    · cases hx : cutL c r with
      | nil => simp [onFirst]
      | cons p ps => rw [hx] at ih; simp only [onFirst, List.length_cons] at *; omega
end Go.Proofs.YtekgfjfdabcmfaaDoor
