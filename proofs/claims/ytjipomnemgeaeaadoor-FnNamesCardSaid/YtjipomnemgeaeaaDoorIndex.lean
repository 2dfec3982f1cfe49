/-
  The contracts of IndexOf, the program's and the model's: the first place of a string in a slice, or -1.
-/
import Derived.Test.YtjipomnemgeaeaaDoorProg
import Derived.Test.YtjipomnemgeaeaaDoorStrs
import Derived.Test.YtjipomnemgeaeaaDoorStrEq
import Derived.WalkSmall
namespace Go.Proofs.YtjipomnemgeaeaaDoor
open Go Go.RowKit

/-- The place of s in the list, counted from k on; -1 if it isn't there. -/
def ixFrom (s : ByteArray) : List ByteArray → Int → Int
  | [], _ => -1
  | x :: r, k => if x = s then k else ixFrom s r (k + 1)
def ixOf (xs : List ByteArray) (s : ByteArray) : Int := ixFrom s xs 0

theorem ix_here {xs : List ByteArray} {s : ByteArray} {k : Nat} {K : Int} (hk : k < xs.length) (h : xs[k] = s) : ixFrom s (xs.drop k) K = K := by
  rw [List.drop_eq_getElem_cons hk, ixFrom, if_pos h]
theorem ix_next {xs : List ByteArray} {s : ByteArray} {k : Nat} {K : Int} (hk : k < xs.length) (h : ¬ xs[k] = s) : ixFrom s (xs.drop k) K = ixFrom s (xs.drop (k + 1)) (K + 1) := by
  rw [List.drop_eq_getElem_cons hk, ixFrom, if_neg h]
theorem ix_end {xs : List ByteArray} {s : ByteArray} {K : Int} : ixFrom s (xs.drop xs.length) K = -1 := by
  rw [List.drop_of_length_le (Nat.le_refl _), ixFrom]
theorem ix_neg {s : ByteArray} : ∀ {xs : List ByteArray} {K : Int}, 0 ≤ K → (ixFrom s xs K < 0 ↔ s ∉ xs)
  | [], K, _ => by simp [ixFrom]
  | x :: r, K, h => by
    have := ix_neg (s := s) (xs := r) (K := K + 1) (by omega)
    rw [ixFrom]
    by_cases hx : x = s
    · rw [if_pos hx]
      simp [hx]
      omega
    · rw [if_neg hx, this]
      simp [show s ≠ x from fun h => hx h.symm]
theorem ixOf_neg {s : ByteArray} {xs : List ByteArray} : ixOf xs s < 0 ↔ s ∉ xs := ix_neg (by decide)
theorem ix_range {s : ByteArray} : ∀ {xs : List ByteArray} {K : Int}, 0 ≤ K → -1 ≤ ixFrom s xs K ∧ ixFrom s xs K ≤ K + xs.length
  | [], K, h => by rw [ixFrom]; simp; omega
  | x :: r, K, h => by
    have := ix_range (s := s) (xs := r) (K := K + 1) (by omega)
    rw [ixFrom]
    simp only [List.length_cons]
    split <;> omega
theorem ixOf_range (s : ByteArray) (xs : List ByteArray) : -1 ≤ ixOf xs s ∧ ixOf xs s ≤ xs.length := by
  have := ix_range (s := s) (xs := xs) (K := 0) (by decide)
  rw [Int.zero_add] at this
  exact this

def AnsI (n : Int) (w : World) (e : Ending) (w' : World) : Prop := e = .returned (.int .i64 n) ∧ w' = w

set_option maxRecDepth 100000 in
set_option maxHeartbeats 400000 in
theorem ixS_some (xs : List ByteArray) (s : ByteArray) (b o c : Nat) (w : World) (h1 : 1 ≤ xs.length) (hn : xs.length ≤ 9223372036854775807)
    (hcell : ∀ j x, xs[j]? = some x → w.cell? ⟨b, o + j, none⟩ = some (.string x)) :
    Calls Tryd.prog 36 #[.slice (some ⟨b, o, none⟩) xs.length c, .string s] w (AnsI (ixOf xs s) w) := by
  have HC := Lib.hid hcell
  clear hcell
  go_enter Tryd.func36, Tryd.ntmps36
  go_wp2_with fail
  go_loop [5] (fun i => ∃ k : Nat, k ≤ xs.length ∧ i = .int .i64 k ∧ Hid (ixFrom s (xs.drop k) k = ixOf xs s)) (fun i => xs.length - (intOf i).toNat)
  case atStart => exact ⟨0, Nat.zero_le _, rfl, Lib.hid rfl⟩
  case round =>
    obtain ⟨k, hk, rfl, HE⟩ := hrel
    by_cases hlk : k < xs.length
    · have c1 := HC.out k _ (List.getElem?_eq_getElem hlk)
      by_cases hx : xs[k] = s
      · have HX := Lib.hid (ix_here (K := k) hlk hx)
        have t := str_yes hx
        clear hx
        go_wp2_with fail
        go_ret
        exact ⟨by rw [← HE.out, HX.out]; rfl, rfl⟩
      · have HX := Lib.hid (ix_next (K := k) hlk hx)
        have t := str_no hx
        clear hx
        go_wp2_with fail
        go_round
        case rel => exact ⟨k + 1, by omega, by go_num, Lib.hid (by rw [← HE.out, HX.out]; rfl)⟩
        case measure => simp [intOf]; omega
    · obtain rfl : k = xs.length := by omega
      go_wp2_with fail
      go_ret
      exact ⟨by rw [← HE.out, ix_end]; rfl, rfl⟩

set_option maxRecDepth 100000 in
theorem ixS_none (a : Option Addr) (s : ByteArray) (c : Nat) (w : World) :
    Calls Tryd.prog 36 #[.slice a 0 c, .string s] w (AnsI (-1) w) := by
  go_enter Tryd.func36, Tryd.ntmps36
  go_wp2_with fail
  go_loop [5] (fun i => i = .int .i64 0) (fun _ => 0)
  case atStart => rfl
  case round =>
    obtain rfl := hrel
    go_wp2_with fail
    go_ret
    exact ⟨rfl, rfl⟩

theorem ixS_any (xs : List ByteArray) (v : Value) (s : ByteArray) (w : World) (hn : xs.length ≤ 9223372036854775807) (h : SS w v xs) :
    Calls Tryd.prog 36 #[v, .string s] w (AnsI (ixOf xs s) w) := by
  rcases h with ⟨rfl, a, c, rfl⟩ | ⟨h1, b, o, c, rfl, _, _, hcell⟩
  · exact ixS_none a s c w
  · exact ixS_some xs s b o c w h1 hn hcell

set_option maxRecDepth 100000 in
set_option maxHeartbeats 400000 in
theorem ixI_some (xs : List ByteArray) (s : ByteArray) (b o c : Nat) (w : World) (h1 : 1 ≤ xs.length) (hn : xs.length ≤ 9223372036854775807)
    (hcell : ∀ j x, xs[j]? = some x → w.cell? ⟨b, o + j, none⟩ = some (.string x)) :
    Calls Tryd.prog 14 #[.slice (some ⟨b, o, none⟩) xs.length c, .string s] w (AnsI (ixOf xs s) w) := by
  have HC := Lib.hid hcell
  clear hcell
  go_enter Tryd.func14, Tryd.ntmps14
  go_wp2_with fail
  go_loop [9] (fun i => ∃ k : Nat, k ≤ xs.length ∧ i = .int .i64 k ∧ Hid (ixFrom s (xs.drop k) k = ixOf xs s)) (fun i => xs.length - (intOf i).toNat)
  case atStart => exact ⟨0, Nat.zero_le _, rfl, Lib.hid rfl⟩
  case round =>
    obtain ⟨k, hk, rfl, HE⟩ := hrel
    by_cases hlk : k < xs.length
    · have c1 := HC.out k _ (List.getElem?_eq_getElem hlk)
      by_cases hx : xs[k] = s
      · have HX := Lib.hid (ix_here (K := k) hlk hx)
        have t := str_yes hx
        clear hx
        go_wp2_with fail
        go_ret
        exact ⟨by rw [← HE.out, HX.out]; rfl, rfl⟩
      · have HX := Lib.hid (ix_next (K := k) hlk hx)
        have t := str_no hx
        clear hx
        go_wp2_with fail
        go_round
        case rel => exact ⟨k + 1, by omega, by go_num, Lib.hid (by rw [← HE.out, HX.out]; rfl)⟩
        case measure => simp [intOf]; omega
    · obtain rfl : k = xs.length := by omega
      go_wp2_with fail
      go_ret
      exact ⟨by rw [← HE.out, ix_end]; rfl, rfl⟩

set_option maxRecDepth 100000 in
theorem ixI_none (a : Option Addr) (s : ByteArray) (c : Nat) (w : World) :
    Calls Tryd.prog 14 #[.slice a 0 c, .string s] w (AnsI (-1) w) := by
  go_enter Tryd.func14, Tryd.ntmps14
  go_wp2_with fail
  go_loop [9] (fun i => i = .int .i64 0) (fun _ => 0)
  case atStart => rfl
  case round =>
    obtain rfl := hrel
    go_wp2_with fail
    go_ret
    exact ⟨rfl, rfl⟩

theorem ixI_any (xs : List ByteArray) (v : Value) (s : ByteArray) (w : World) (hn : xs.length ≤ 9223372036854775807) (h : SS w v xs) :
    Calls Tryd.prog 14 #[v, .string s] w (AnsI (ixOf xs s) w) := by
  rcases h with ⟨rfl, a, c, rfl⟩ | ⟨h1, b, o, c, rfl, _, _, hcell⟩
  · exact ixI_none a s c w
  · exact ixI_some xs s b o c w h1 hn hcell
end Go.Proofs.YtjipomnemgeaeaaDoor
