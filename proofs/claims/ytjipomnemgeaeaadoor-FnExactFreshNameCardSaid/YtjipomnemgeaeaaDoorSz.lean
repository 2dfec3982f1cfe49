/-
  The contract of the laws' szStringS: what is left of a bound behind a slice of strings, or -1.
-/
import Derived.Test.YtjipomnemgeaeaaDoorProg
import Derived.Test.YtjipomnemgeaeaaDoorStrs
namespace Go.Proofs.YtjipomnemgeaeaaDoor
open Go Go.RowKit

def sumSz : List ByteArray → Nat
  | [] => 0
  | x :: r => x.size + sumSz r
theorem sumSz_append (a b : List ByteArray) : sumSz (a ++ b) = sumSz a + sumSz b := by
  induction a with
  | nil => simp [sumSz]
  | cons x a ih => simp only [List.cons_append, sumSz, ih]; omega
theorem sumSz_take (xs : List ByteArray) (k : Nat) (h : k < xs.length) : sumSz (xs.take (k + 1)) = sumSz (xs.take k) + xs[k].size := by
  rw [List.take_add_one, List.getElem?_eq_getElem h, sumSz_append]; simp [sumSz]
theorem sumSz_le (xs : List ByteArray) (k : Nat) : sumSz (xs.take k) ≤ sumSz xs := by
  have h := sumSz_append (xs.take k) (xs.drop k)
  rw [List.take_append_drop] at h
  omega
/-- k strings have been counted: L is left. -/
def LeftAt (left : Int) (xs : List ByteArray) (k : Nat) (L : Int) : Prop := L + xs.length + sumSz (xs.take k) = left
/-- How the count ends. -/
def SzEnds (left : Int) (xs : List ByteArray) (r : Int) : Prop := (0 ≤ r ∧ r + xs.length + sumSz xs = left) ∨ (r = -1 ∧ left < xs.length + sumSz xs)
theorem sz_minus {left : Int} {xs : List ByteArray} (h : left < xs.length) : SzEnds left xs (-1) := Or.inr ⟨rfl, by omega⟩
theorem sz_over {left : Int} {xs : List ByteArray} {k : Nat} {L : Int} (h : LeftAt left xs k L) (hk : k < xs.length) (hl : L < xs[k].size) : SzEnds left xs (-1) := by
  refine Or.inr ⟨rfl, ?_⟩
  have h1 := sumSz_take xs k hk
  have h2 := sumSz_le xs (k + 1)
  unfold LeftAt at h
  omega
theorem sz_next {left : Int} {xs : List ByteArray} {k : Nat} {L : Int} (h : LeftAt left xs k L) (hk : k < xs.length) : LeftAt left xs (k + 1) (L - xs[k].size) := by
  have h1 := sumSz_take xs k hk
  unfold LeftAt at *
  omega
theorem sz_end {left : Int} {xs : List ByteArray} {L : Int} (h : LeftAt left xs xs.length L) (h0 : 0 ≤ L) : SzEnds left xs L := by
  unfold LeftAt at h
  rw [List.take_length] at h
  exact Or.inl ⟨h0, h⟩
def IntRet (P : Int → Prop) (w : World) (e : Ending) (w' : World) : Prop := ∃ n : Int, P n ∧ e = .returned (.int .i64 n) ∧ w = w'

set_option maxRecDepth 100000 in
set_option maxHeartbeats 1000000 in
theorem sz_some (xs : List ByteArray) (b o c : Nat) (left : Int) (w : World) (h0 : 0 ≤ left) (hl : left ≤ 1048576) (h1 : 1 ≤ xs.length) (hn : xs.length ≤ 9223372036854775807) (hz : ∀ x ∈ xs, x.size ≤ 9223372036854775807)
    (hcell : ∀ j x, xs[j]? = some x → w.cell? ⟨b, o + j, none⟩ = some (.string x)) :
    Calls Tryd.prog 26 #[.slice (some ⟨b, o, none⟩) xs.length c, .int .i64 left] w (IntRet (SzEnds left xs) w) := by
  have HC := Lib.hid hcell
  have HZ := Lib.hid hz
  clear hcell hz
  by_cases hbig : left - (xs.length : Int) < 0
  · go_enter Tryd.func26, Tryd.ntmps26
    go_wp2_with fail
    go_ret
    exact ⟨_, sz_minus (by omega), rfl, rfl⟩
  · go_enter Tryd.func26, Tryd.ntmps26
    go_wp2_with fail
    go_loop [1, 5] (fun l i => ∃ (k : Nat) (L : Int), k ≤ xs.length ∧ 0 ≤ L ∧ L ≤ left ∧ i = .int .i64 k ∧ l = .int .i64 L ∧ LeftAt left xs k L) (fun _ i => xs.length - (intOf i).toNat)
    case atStart => exact ⟨0, _, Nat.zero_le _, by omega, by omega, rfl, rfl, by unfold LeftAt; simp [sumSz]⟩
    case round =>
      obtain ⟨k, L, hk, hL0, hL1, rfl, rfl, hat⟩ := hrel
      have HA := Lib.hid hat
      clear hat
      by_cases hlk : k < xs.length
      · have c1 : w.cell? ⟨b, o + k, none⟩ = some (.string xs[k]) := HC.out k _ (List.getElem?_eq_getElem hlk)
        have s1 : xs[k].size ≤ 9223372036854775807 := HZ.out _ (List.getElem_mem hlk)
        by_cases hov : L - (xs[k].size : Int) < 0
        · go_wp2_with fail
          go_ret
          exact ⟨_, sz_over HA.out hlk (by omega), rfl, rfl⟩
        · go_wp2_with fail
          go_round
          case rel => exact ⟨k + 1, _, by omega, by omega, by omega, by go_num, rfl, sz_next HA.out hlk⟩
          case measure => simp [intOf]; omega
      · obtain rfl : k = xs.length := by omega
        go_wp2_with fail
        go_ret
        exact ⟨_, sz_end HA.out hL0, rfl, rfl⟩

set_option maxRecDepth 100000 in
set_option maxHeartbeats 1000000 in
theorem sz_none (a : Option Addr) (c : Nat) (left : Int) (w : World) (h0 : 0 ≤ left) (hl : left ≤ 1048576) :
    Calls Tryd.prog 26 #[.slice a 0 c, .int .i64 left] w (IntRet (SzEnds left []) w) := by
  go_enter Tryd.func26, Tryd.ntmps26
  go_wp2_with fail
  go_loop [1, 5] (fun l i => l = .int .i64 left ∧ i = .int .i64 0) (fun _ _ => 0)
  case atStart => exact ⟨rfl, rfl⟩
  case round =>
    obtain ⟨rfl, rfl⟩ := hrel
    go_wp2_with fail
    go_ret
    exact ⟨_, Or.inl ⟨h0, by simp [sumSz]⟩, rfl, rfl⟩

/-- THE LAWS' szStringS, AT EVERY SLICE OF STRINGS. -/
theorem sz_any (xs : List ByteArray) (v : Value) (left : Int) (w : World) (h0 : 0 ≤ left) (hl : left ≤ 1048576) (hn : xs.length ≤ 9223372036854775807) (hz : ∀ x ∈ xs, x.size ≤ 9223372036854775807) (h : SS w v xs) :
    Calls Tryd.prog 26 #[v, .int .i64 left] w (IntRet (SzEnds left xs) w) := by
  rcases h with ⟨rfl, a, c, rfl⟩ | ⟨h1, b, o, c, rfl, _, _, hcell⟩
  · exact sz_none a c left w h0 hl
  · exact sz_some xs b o c left w h0 hl h1 hn hz hcell
#print axioms sz_any
end Go.Proofs.YtjipomnemgeaeaaDoor
