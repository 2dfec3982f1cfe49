/-
  The contract of the law's comparing of two slices of strings.
-/
import Derived.Test.YtjipomnemgeaeaaDoorProg
import Derived.Test.YtjipomnemgeaeaaDoorStrs
import Derived.WalkSmall
import Derived.Deep.QuietTactic
import Derived.BigQuiet
namespace Go.Proofs.YtjipomnemgeaeaaDoor
open Go Go.RowKit

set_option maxRecDepth 100000 in
set_option maxHeartbeats 1000000 in
theorem same_some (xs : List ByteArray) (b o c b' o' c' : Nat) (w : World) (h1 : 1 ≤ xs.length) (hn : xs.length ≤ 9223372036854775807) (hb : b < w.heap.size) (hb' : b' < w.heap.size)
    (hcell : ∀ j x, xs[j]? = some x → w.cell? ⟨b, o + j, none⟩ = some (.string x)) (hcell' : ∀ j x, xs[j]? = some x → w.cell? ⟨b', o' + j, none⟩ = some (.string x)) :
    Calls Tryd.prog 15 #[.slice (some ⟨b, o, none⟩) xs.length c, .slice (some ⟨b', o', none⟩) xs.length c'] w fun e w' => e = .returned (.bool true) ∧ Below w.heap.size w w' := by
  have HC := Lib.hid hcell
  have HC' := Lib.hid hcell'
  clear hcell hcell'
  go_enter Tryd.func15, Tryd.ntmps15
  go_wp2_with fail
  go_loopw [5] (fun i wr => ∃ k : Nat, k ≤ xs.length ∧ i = .int .i64 k ∧ Below w.heap.size w wr) (fun i _ => xs.length - (intOf i).toNat)
  case atStart => exact ⟨0, Nat.zero_le _, rfl, Below.refl _ _⟩
  case round =>
    obtain ⟨k, hk, rfl, hbr⟩ := hrel
    by_cases hlk : k < xs.length
    · have c1 : wr.cell? ⟨b, o + k, none⟩ = some (.string xs[k]) := (hbr.cell (p := ⟨b, o + k, none⟩) hb).trans (HC.out k _ (List.getElem?_eq_getElem hlk))
      have c2 : wr.cell? ⟨b', o' + k, none⟩ = some (.string xs[k]) := (hbr.cell (p := ⟨b', o' + k, none⟩) hb').trans (HC'.out k _ (List.getElem?_eq_getElem hlk))
      have HB := Lib.hid hbr
      clear hbr
      go_wp2_with fail
      go_quiet (fail)
      go_wp2_with fail
      go_roundw
      case rel => exact ⟨k + 1, by omega, by go_num, below_drewN HB.out _⟩
      case measure => simp [intOf]; omega
    · go_wp2_with fail
      go_ret
      exact ⟨rfl, hbr⟩

set_option maxRecDepth 100000 in
set_option maxHeartbeats 1000000 in
theorem same_none (a a' : Option Addr) (c c' : Nat) (w : World) :
    Calls Tryd.prog 15 #[.slice a 0 c, .slice a' 0 c'] w fun e w' => e = .returned (.bool true) ∧ Below w.heap.size w w' := by
  go_enter Tryd.func15, Tryd.ntmps15
  go_wp2_with fail
  go_loopw [5] (fun i wr => i = .int .i64 0 ∧ wr = w) (fun _ _ => 0)
  case atStart => exact ⟨rfl, rfl⟩
  case round =>
    obtain ⟨rfl, rfl⟩ := hrel
    go_wp2_with fail
    go_ret
    exact ⟨rfl, Below.refl _ _⟩

/-- THE LAWS' eqStringS AT TWO SLICES OF THE SAME STRINGS. -/
theorem same_any (xs : List ByteArray) (v v' : Value) (w : World) (hn : xs.length ≤ 9223372036854775807) (h : SS w v xs) (h' : SS w v' xs) :
    Calls Tryd.prog 15 #[v, v'] w fun e w' => e = .returned (.bool true) ∧ Below w.heap.size w w' := by
  rcases h with ⟨rfl, a, c, rfl⟩ | ⟨h1, b, o, c, rfl, _, hb, hcell⟩
  · rcases h' with ⟨_, a', c', rfl⟩ | ⟨h1', _⟩
    · exact same_none a a' c c' w
    · simp at h1'
  · rcases h' with ⟨rfl, _⟩ | ⟨_, b', o', c', rfl, _, hb', hcell'⟩
    · simp at h1
    · exact same_some xs b o c b' o' c' w h1 hn hb hb' hcell hcell'
#print axioms same_any
end Go.Proofs.YtjipomnemgeaeaaDoor
