/-
  The contract of the laws' toStringS: a new slice with the same strings.
-/
import Derived.Test.YtjipomnemgeaeaaDoorProg
import Derived.Test.YtjipomnemgeaeaaDoorStrs
import Derived.WalkSmall
import Derived.Laws.OwnMore
namespace Go.Proofs.YtjipomnemgeaeaaDoor
open Go Go.RowKit

theorem infoStr : (Tryd.prog.info? 9).map (fun i => (i.zero, i.size, i.bytes)) = some (some (.string ⟨#[]⟩), 1, 16) := by kernel_rfl

def Filled (xs : List ByteArray) (k : Nat) : List Value := (xs.take k).map Value.string ++ List.replicate (xs.length - k) (.string ⟨#[]⟩)
theorem filled_zero (xs : List ByteArray) : Filled xs 0 = List.replicate xs.length (.string ⟨#[]⟩) := by simp [Filled]
theorem filled_all (xs : List ByteArray) : Filled xs xs.length = xs.map Value.string := by simp [Filled]
theorem filled_step (xs : List ByteArray) (k : Nat) (h : k < xs.length) : (Filled xs k).set k (.string xs[k]) = Filled xs (k + 1) := by
  have e : (xs.take (k + 1)).map Value.string = (xs.take k).map Value.string ++ [Value.string xs[k]] := by
    rw [List.take_add_one, List.getElem?_eq_getElem h, List.map_append]; rfl
  have hl : ((xs.take k).map Value.string).length = k := by rw [List.length_map, List.length_take]; omega
  unfold Filled
  rw [e, show xs.length - k = (xs.length - (k + 1)) + 1 by omega, List.replicate_succ, List.set_append_right _ _ (by omega), hl, Nat.sub_self, List.set_cons_zero, List.append_assoc]
  rfl

theorem filled_at (xs : List ByteArray) (k : Nat) (h : k < xs.length) : (Filled xs k)[k]? = some (.string ⟨#[]⟩) := by
  have hl : ((xs.take k).map Value.string).length = k := by rw [List.length_map, List.length_take]; omega
  unfold Filled
  rw [List.getElem?_append_right (by omega), hl, Nat.sub_self, show xs.length - k = (xs.length - (k + 1)) + 1 by omega, List.replicate_succ]
  rfl

set_option maxRecDepth 100000 in
set_option maxHeartbeats 1000000 in
theorem copy_some (xs : List ByteArray) (b o c : Nat) (w : World) (h1 : 1 ≤ xs.length) (hn : xs.length ≤ 1048576) (hb : b < w.heap.size) (hcell : ∀ j x, xs[j]? = some x → w.cell? ⟨b, o + j, none⟩ = some (.string x)) :
    Calls Tryd.prog 27 #[.slice (some ⟨b, o, none⟩) xs.length c] w fun e w' =>
      e = .returned (.slice (some ⟨w.heap.size, 0, none⟩) xs.length xs.length) ∧ w'.ownsRow w.heap.size 9 1 (.slice (some ⟨w.heap.size, 0, none⟩) xs.length xs.length) xs.length (xs.map Value.string) ∧ Below w.heap.size w w' := by
  obtain ⟨i0, hi, hz0, hz1, hz2⟩ := info_parts infoStr
  have HC := Lib.hid hcell
  clear hcell
  go_enter Tryd.func27, Tryd.ntmps27
  go_wp2_with (at_make; refine wpList_make_full _ rfl _ _ 24 rfl w.heap.size 9 i0 (.string ⟨#[]⟩) 1 Tryd.underlying24 hi hz0 hz1 .i64 .i64 _ _ xs.length rfl rfl rfl rfl ?c1 ?c2 ?c3 ?_)
  case c1 => rw [hz2]; omega
  case c2 => unfold maxLen; omega
  case c3 => exact Nat.le_refl _
  intro w1 hown0 hg
  have hb1 : Below w.heap.size w w1 := (Below.refl _ _).grown hg (Nat.le_refl _) (fun k h => by cases h)
  have hown : w1.ownsRow w.heap.size 9 1 (.slice (some ⟨w.heap.size, 0, none⟩) xs.length xs.length) xs.length (Filled xs 0) := by
    rw [filled_zero, ← toList_madeCells_one]
    exact hown0
  have HO := Lib.hid hown
  clear hown hown0 hg
  go_wp2_with fail
  go_loopw [4] (fun i wr => ∃ k : Nat, k ≤ xs.length ∧ i = .int .i64 k ∧ wr.ownsRow w.heap.size 9 1 (.slice (some ⟨w.heap.size, 0, none⟩) xs.length xs.length) xs.length (Filled xs k) ∧ Below w.heap.size w wr) (fun i _ => xs.length - (intOf i).toNat)
  case atStart => exact ⟨0, Nat.zero_le _, rfl, HO.out, hb1⟩
  case round =>
    obtain ⟨k, hk, rfl, hown, hbr⟩ := hrel
    clear hb1
    by_cases hlk : k < xs.length
    · have c1 : wr.cell? ⟨b, o + k, none⟩ = some (.string xs[k]) := (hbr.cell (p := ⟨b, o + k, none⟩) hb).trans (HC.out k _ (List.getElem?_eq_getElem hlk))
      have c2 := (hown.cellAt k (by omega)).trans (filled_at xs k hlk)
      have z2 := hown.frozenAt k
      have hst := hown.stored k (.string xs[k])
      rw [filled_step xs k hlk] at hst
      have HST := Lib.hid hst
      have HB := Lib.hid (hbr.setCell (p := ⟨w.heap.size, k, none⟩) (Nat.le_refl _) (.string xs[k]))
      clear hst hown hbr
      go_wp2_with fail
      go_roundw
      case rel => exact ⟨k + 1, by omega, by go_num, HST.out.1, HB.out⟩
      case measure => simp [intOf]; omega
    · obtain rfl : k = xs.length := by omega
      rw [filled_all] at hown
      have HW := Lib.hid hown
      clear hown
      go_wp2_with fail
      go_ret
      exact ⟨rfl, HW.out, hbr⟩

set_option maxRecDepth 100000 in
set_option maxHeartbeats 1000000 in
theorem copy_none (a : Option Addr) (c : Nat) (w : World) :
    Calls Tryd.prog 27 #[.slice a 0 c] w fun e w' =>
      e = .returned (.slice (some ⟨w.heap.size, 0, none⟩) 0 0) ∧ w'.ownsRow w.heap.size 9 1 (.slice (some ⟨w.heap.size, 0, none⟩) 0 0) 0 [] ∧ Below w.heap.size w w' := by
  obtain ⟨i0, hi, hz0, hz1, hz2⟩ := info_parts infoStr
  go_enter Tryd.func27, Tryd.ntmps27
  go_wp2_with (at_make; refine wpList_make_full _ rfl _ _ 24 rfl w.heap.size 9 i0 (.string ⟨#[]⟩) 1 Tryd.underlying24 hi hz0 hz1 .i64 .i64 _ _ 0 rfl rfl rfl rfl ?c1 ?c2 ?c3 ?_)
  case c1 => omega
  case c2 => unfold maxLen; omega
  case c3 => exact Nat.le_refl _
  intro w1 hown0 hg
  have hb1 : Below w.heap.size w w1 := (Below.refl _ _).grown hg (Nat.le_refl _) (fun k h => by cases h)
  have hown : w1.ownsRow w.heap.size 9 1 (.slice (some ⟨w.heap.size, 0, none⟩) 0 0) 0 [] := by
    have e : (madeCells #[Value.string ⟨#[]⟩] 0).toList = [] := toList_madeCells_one _ _
    rw [← e]
    exact hown0
  have HO := Lib.hid hown
  clear hown hown0 hg
  go_wp2_with fail
  go_loopw [4] (fun i wr => i = .int .i64 0 ∧ wr = w1) (fun _ _ => 0)
  case atStart => exact ⟨rfl, rfl⟩
  case round =>
    obtain ⟨rfl, rfl⟩ := hrel
    go_wp2_with fail
    go_ret
    exact ⟨rfl, HO.out, hb1⟩

/-- THE LAWS' toStringS, AT EVERY SLICE OF STRINGS. -/
theorem copy_any (xs : List ByteArray) (v : Value) (w : World) (hn : xs.length ≤ 1048576) (h : SS w v xs) :
    Calls Tryd.prog 27 #[v] w fun e w' =>
      ∃ v', e = .returned v' ∧ w'.ownsRow w.heap.size 9 1 v' xs.length (xs.map Value.string) ∧ v' = .slice (some ⟨w.heap.size, 0, none⟩) xs.length xs.length ∧ Below w.heap.size w w' := by
  rcases h with ⟨rfl, a, c, rfl⟩ | ⟨h1, b, o, c, rfl, _, hb, hcell⟩
  · exact (copy_none a c w).mono fun e w' ⟨he, ho, hbl⟩ => ⟨_, he, ho, rfl, hbl⟩
  · exact (copy_some xs b o c w h1 hn hb hcell).mono fun e w' ⟨he, ho, hbl⟩ => ⟨_, he, ho, rfl, hbl⟩
#print axioms copy_any
end Go.Proofs.YtjipomnemgeaeaaDoor
