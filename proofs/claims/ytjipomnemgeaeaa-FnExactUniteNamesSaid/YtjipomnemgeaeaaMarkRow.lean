/-
  Marking a slice of strings that is a call's own, empty or not, and what stays as it was: every other block.
-/
import Derived.Test.YtjipomnemgeaeaaMark
import Derived.Test.YtjipomnemgeaeaaAppS
namespace Go.Proofs.Ytjipomnemgeaeaa
open Go Go.RowKit

/-- Every block but the row's own is as it was. -/
def ButV (v : Value) (w w' : World) : Prop := w.heap.size ≤ w'.heap.size ∧ ∀ k, k < w.heap.size → v.ownBlock ≠ some k → w'.heap[k]? = w.heap[k]?
theorem ButV.refl (v : Value) (w : World) : ButV v w w := ⟨Nat.le_refl _, fun _ _ _ => rfl⟩
theorem ButV.below {v : Value} {w w1 w' : World} (h : ButV v w w1) (hb : Below w1.heap.size w1 w') : ButV v w w' :=
  ⟨Nat.le_trans h.1 hb.size, fun k hk hne => (hb.block k (Nat.lt_of_lt_of_le hk h.1)).trans (h.2 k hk hne)⟩
theorem ButV.setCell {g n c j : Nat} {w w1 : World} (h : ButV (.slice (some ⟨g, 0, none⟩) n c) w w1) (u : Value) : ButV (.slice (some ⟨g, 0, none⟩) n c) w (w1.setCell ⟨g, j, none⟩ u) := by
  have hk : ∀ k, k ≠ g → (w1.setCell ⟨g, j, none⟩ u).heap[k]? = w1.heap[k]? := by
    intro k hk
    unfold World.setCell
    split
    all_goals
      show (w1.heap.modify g _)[k]? = _
      rw [Array.getElem?_modify, if_neg (fun e => hk e.symm)]
  refine ⟨Nat.le_trans h.1 ((Below.refl g w1).setCell (p := ⟨g, j, none⟩) (Nat.le_refl _) u).size, fun k hlt hne => ?_⟩
  rw [hk k (fun e => hne (by rw [e]; rfl))]
  exact h.2 k hlt hne

theorem Own.but {w w' : World} {base : Nat} {u v : Value} {xs : List ByteArray} (h : Own w base v xs) (hne : ∀ g, v.ownBlock = some g → u.ownBlock ≠ some g) (hb : ButV u w w') : Own w' base v xs := by
  refine ⟨h.1, ?_⟩
  rcases h.2 with h0 | ⟨g, cap, cur, rfl, hg, hblk, h1, h2, h3, h4⟩
  · exact Or.inl h0
  · refine Or.inr ⟨g, cap, cur, rfl, hg, ?_, h1, h2, h3, h4⟩
    rw [hb.2 g (h.lt g rfl).2 (hne g rfl)]; exact hblk

set_option maxRecDepth 100000 in
set_option maxHeartbeats 1000000 in
theorem mark_blk (xs : List ByteArray) (g cap : Nat) (K : Nat) (w : World) (base : Nat) (hK : 1 ≤ K) (hn : K + xs.length ≤ 9223372036854775807) (h : w.ownsRow base 9 1 (.slice (some ⟨g, 0, none⟩) xs.length cap) xs.length (xs.map Value.string)) :
    Calls Try.prog 18 #[.slice (some ⟨g, 0, none⟩) xs.length cap, .int .i64 K] w fun e w' => e = .returned (.int .i64 ((K + xs.length : Nat) : Int)) ∧
      w'.ownsRow base 9 1 (.slice (some ⟨g, 0, none⟩) xs.length cap) xs.length ((marks K xs.length).map Value.string) ∧ Below g w w' ∧ ButV (.slice (some ⟨g, 0, none⟩) xs.length cap) w w' := by
  have HO : Hid (w.ownsRow base 9 1 (.slice (some ⟨g, 0, none⟩) xs.length cap) xs.length (Marked xs K 0)) := Lib.hid (by rw [marked_zero]; exact h)
  have hg : g < w.heap.size := (h.lt g rfl).2
  clear h
  go_enter Try.func18, Try.ntmps18
  go_wp2_with fail
  go_loopw [1, 5] (fun q i wr => ∃ j : Nat, j ≤ xs.length ∧ i = .int .i64 j ∧ q = .int .i64 ((K + j : Nat) : Int) ∧ wr.ownsRow base 9 1 (.slice (some ⟨g, 0, none⟩) xs.length cap) xs.length (Marked xs K j) ∧ Below g w wr ∧ ButV (.slice (some ⟨g, 0, none⟩) xs.length cap) w wr) (fun _ i _ => xs.length - (intOf i).toNat)
  case atStart => exact ⟨0, Nat.zero_le _, rfl, rfl, HO.out, Below.refl _ _, ButV.refl _ _⟩
  case round =>
    obtain ⟨j, hj, rfl, rfl, hown, hbr, hbut⟩ := hrel
    have hgr : g < wr.heap.size := Nat.lt_of_lt_of_le hg hbr.size
    have HBU := Lib.hid hbut
    clear hbut
    by_cases hlj : j < xs.length
    · have HW := Lib.hid hown
      have HB := Lib.hid hbr
      clear hown hbr
      go_wp2_with fail
      refine (markText_any (K + j) (by omega) (by omega) wr).mono ?_
      rintro e w1 ⟨rfl, hb1⟩
      have hown1 := ownsRow_below HW.out hb1
      have c1 := (hown1.cellAt j (by omega)).trans (marked_at xs K j hlj)
      have z1 := hown1.frozenAt j
      have hst := hown1.stored j (.string (mk (K + j)))
      rw [marked_step xs K j hlj] at hst
      have HST := Lib.hid hst.1
      have HB1 := Lib.hid ((HB.out.trans (hb1.mono (Nat.le_of_lt hgr))).setCell (p := ⟨g, j, none⟩) (Nat.le_refl _) (.string (mk (K + j))))
      have HBU1 := Lib.hid ((HBU.out.below hb1).setCell (j := j) (.string (mk (K + j))))
      clear hst hown1 hb1
      go_wp2_with fail
      go_roundw
      case rel => exact ⟨j + 1, by omega, by go_num, by go_num, HST.out, HB1.out, HBU1.out⟩
      case measure => simp [intOf]; omega
    · obtain rfl : j = xs.length := by omega
      rw [marked_all] at hown
      have HW := Lib.hid hown
      clear hown
      go_wp2_with fail
      go_ret
      exact ⟨rfl, HW.out, hbr, HBU.out⟩

set_option maxRecDepth 100000 in
theorem mark_nil (K : Nat) (w : World) :
    Calls Try.prog 18 #[.slice none 0 0, .int .i64 K] w fun e w' => e = .returned (.int .i64 K) ∧ w' = w := by
  go_enter Try.func18, Try.ntmps18
  go_wp2_with fail
  go_loopw [1, 5] (fun q i wr => q = .int .i64 K ∧ i = .int .i64 0 ∧ wr = w) (fun _ _ _ => 0)
  case atStart => exact ⟨rfl, rfl, rfl⟩
  case round =>
    obtain ⟨rfl, rfl, rfl⟩ := hrel
    go_wp2_with fail
    go_ret
    exact ⟨rfl, rfl⟩

/-- Marking any row of the call's own. -/
theorem mark_row (xs : List ByteArray) (v : Value) (K : Nat) (w : World) (base : Nat) (hK : 1 ≤ K) (hn : K + xs.length ≤ 9223372036854775807) (h : Own w base v xs) :
    Calls Try.prog 18 #[v, .int .i64 K] w fun e w' => e = .returned (.int .i64 ((K + xs.length : Nat) : Int)) ∧
      SS w' v (marks K xs.length) ∧ Below base w w' ∧ ButV v w w' := by
  rcases h.2 with ⟨rfl, h0⟩ | ⟨g, cap, cur, rfl, hg, _⟩
  · obtain rfl : xs = [] := List.eq_nil_of_length_eq_zero h0
    exact (mark_nil K w).mono fun e w' ⟨he, hw⟩ => ⟨by simpa using he, Or.inl ⟨rfl, _, _, rfl⟩, by rw [hw]; exact Below.refl _ _, by rw [hw]; exact ButV.refl _ _⟩
  · exact (mark_blk xs g cap K w base hK hn h).mono fun e w' ⟨he, ho, hb, hbu⟩ => ⟨he, SS_of_row (n := xs.length) ho, hb.mono hg, hbu⟩
theorem mark_1 (xs : List ByteArray) (v : Value) (w : World) (base : Nat) (hn : xs.length ≤ 8388608) (h : Own w base v xs) :
    Calls Try.prog 18 #[v, .int .i64 1] w fun e w' => e = .returned (.int .i64 (1 + (xs.length : Int))) ∧ SS w' v (marks 1 xs.length) ∧ Below base w w' ∧ ButV v w w' := by
  have h1 := mark_row xs v 1 w base (Nat.le_refl _) (by omega) h
  rw [show ((1 + xs.length : Nat) : Int) = 1 + (xs.length : Int) by omega] at h1
  exact h1
theorem mark_2 (n : Nat) (xs : List ByteArray) (v : Value) (w : World) (base : Nat) (hn : n + xs.length ≤ 8388608) (h : Own w base v xs) :
    Calls Try.prog 18 #[v, .int .i64 (1 + (n : Int))] w fun e w' => e = .returned (.int .i64 (1 + (n : Int) + (xs.length : Int))) ∧ SS w' v (marks (1 + n) xs.length) ∧ Below base w w' ∧ ButV v w w' := by
  have h1 := mark_row xs v (1 + n) w base (by omega) (by omega) h
  rw [show ((1 + n + xs.length : Nat) : Int) = 1 + (n : Int) + (xs.length : Int) by omega, show ((1 + n : Nat) : Int) = 1 + (n : Int) by omega] at h1
  exact h1
theorem held_1 (n : Nat) (v : Value) (w : World) (hn : n ≤ 8388608) (h : SS w v (marks 1 n)) :
    Calls Try.prog 19 #[v, .int .i64 1] w fun e w' => e = .returned (.int .i64 (1 + (n : Int))) ∧ Below w.heap.size w w' := by
  have h1 := held_any n v 1 w (Nat.le_refl _) (by omega) h
  rw [show ((1 + n : Nat) : Int) = 1 + (n : Int) by omega] at h1
  exact h1
#print axioms mark_row
end Go.Proofs.Ytjipomnemgeaeaa
