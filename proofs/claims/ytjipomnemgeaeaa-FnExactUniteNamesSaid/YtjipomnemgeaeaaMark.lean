/-
  The contracts of the laws' marks: the text of a mark, marking a slice of strings that is the call's own, finding the marks again.
-/
import Derived.Test.YtjipomnemgeaeaaProg
import Derived.Test.YtjipomnemgeaeaaPut
import Derived.Test.YtjipomnemgeaeaaStrs
import Derived.WalkSmall
import Derived.Deep.RegionHeld3
namespace Go.Proofs.Ytjipomnemgeaeaa
open Go Go.RowKit

/-- The text of mark k. -/
def mk (k : Nat) : ByteArray := ⟨(109 :: Lib.decDigits k).toArray⟩
/-- The marks from k on. -/
def marks (k n : Nat) : List ByteArray := (List.range n).map fun j => mk (k + j)
theorem marks_length (k n : Nat) : (marks k n).length = n := by simp [marks]
theorem marks_at (k n j : Nat) (h : j < n) : (marks k n)[j]? = some (mk (k + j)) := by simp [marks, h]

theorem ret_mark {a b : List UInt8} (h : a = b) : Ending.returned (.string ((⟨#[109]⟩ : ByteArray) ++ ⟨a.toArray⟩)) = Ending.returned (.string ⟨(109 :: b).toArray⟩) := by rw [h, str_cons]

set_option maxRecDepth 100000 in
set_option maxHeartbeats 400000 in
theorem markText_any (N : Nat) (h1 : 1 ≤ N) (h2 : N ≤ 9223372036854775807) (w : World) :
    Calls Try.prog 28 #[.int .i64 N] w fun e w' => e = .returned (.string (mk N)) ∧ Below w.heap.size w w' := by
  have t1 : decide ((N : Int) ≤ 0) = false := by simp; omega
  go_enter Try.func28, Try.ntmps28
  go_wp2
  go_loopw [0, 3] (fun n out wr => ∃ (m : Nat) (l : List UInt8), m ≤ N ∧ n = .int .i64 m ∧ out = .string ⟨l.toArray⟩ ∧ dec m ++ l = Lib.decDigits N ∧ Below w.heap.size w wr) (fun n _ _ => (intOf n).toNat)
  case atStart => exact ⟨N, [], Nat.le_refl _, rfl, rfl, by rw [dec_pos h1, List.append_nil], Below.refl _ _⟩
  case round =>
    obtain ⟨m, l, hm, rfl, rfl, hl, hb⟩ := hrel
    have hll : l.length ≤ 19 := by
      have e := congrArg List.length hl
      rw [List.length_append] at e
      have := dec_length_le (u := N) (by omega)
      omega
    have HL := Lib.hid hl
    clear hl
    by_cases hz : m = 0
    · subst hz
      go_wp2
      go_ret
      have e := HL.out
      rw [dec_zero, List.nil_append] at e
      exact ⟨ret_mark e, hb⟩
    · have t3 : decide (0 < (m : Int)) = true := by simp; omega
      have kc := run_string_byte (P := Try.prog) wr 41 9 5 (48 + (m : Int) % 10) (by omega) (by omega) Try.underlying41 Try.underlying5 Try.underlying9
      go_wp2
      go_roundw
      case rel => exact ⟨m / 10, _, by omega, by go_num, (rel_put m hz HL.out).1, (rel_put m hz HL.out).2, hb.alloc hb.size _⟩
      case measure => simp [intOf]; omega

/-- The first j of a slice marked, the rest as it was. -/
def Marked (xs : List ByteArray) (k j : Nat) : List Value := (marks k j).map Value.string ++ (xs.drop j).map Value.string
theorem marked_zero (xs : List ByteArray) (k : Nat) : Marked xs k 0 = xs.map Value.string := by simp [Marked, marks]
theorem marked_all (xs : List ByteArray) (k : Nat) : Marked xs k xs.length = (marks k xs.length).map Value.string := by simp [Marked]
theorem marked_at (xs : List ByteArray) (k j : Nat) (h : j < xs.length) : (Marked xs k j)[j]? = some (.string xs[j]) := by
  unfold Marked
  rw [List.getElem?_append_right (by rw [List.length_map, marks_length]; omega), List.length_map, marks_length, Nat.sub_self, List.getElem?_map, List.getElem?_drop, Nat.add_zero, List.getElem?_eq_getElem h]
  rfl
theorem marked_step (xs : List ByteArray) (k j : Nat) (h : j < xs.length) : (Marked xs k j).set j (.string (mk (k + j))) = Marked xs k (j + 1) := by
  have e : marks k (j + 1) = marks k j ++ [mk (k + j)] := by simp [marks, List.range_succ]
  unfold Marked
  rw [e, List.set_append_right _ _ (by rw [List.length_map, marks_length]; omega), List.length_map, marks_length, Nat.sub_self, List.drop_eq_getElem_cons h, List.map_cons, List.set_cons_zero, List.map_append, List.append_assoc]
  rfl

set_option maxRecDepth 100000 in
set_option maxHeartbeats 1000000 in
theorem mark_any (xs : List ByteArray) (g cap : Nat) (K : Nat) (w : World) (base : Nat) (hK : 1 ≤ K) (hn : K + xs.length ≤ 9223372036854775807) (h : w.ownsRow base 9 1 (.slice (some ⟨g, 0, none⟩) xs.length cap) xs.length (xs.map Value.string)) :
    Calls Try.prog 18 #[.slice (some ⟨g, 0, none⟩) xs.length cap, .int .i64 K] w fun e w' => e = .returned (.int .i64 ((K + xs.length : Nat) : Int)) ∧
      w'.ownsRow base 9 1 (.slice (some ⟨g, 0, none⟩) xs.length cap) xs.length ((marks K xs.length).map Value.string) ∧ Below g w w' := by
  have HO : Hid (w.ownsRow base 9 1 (.slice (some ⟨g, 0, none⟩) xs.length cap) xs.length (Marked xs K 0)) := Lib.hid (by rw [marked_zero]; exact h)
  have hg : g < w.heap.size := (h.lt g rfl).2
  clear h
  go_enter Try.func18, Try.ntmps18
  go_wp2_with fail
  go_loopw [1, 5] (fun q i wr => ∃ j : Nat, j ≤ xs.length ∧ i = .int .i64 j ∧ q = .int .i64 ((K + j : Nat) : Int) ∧ wr.ownsRow base 9 1 (.slice (some ⟨g, 0, none⟩) xs.length cap) xs.length (Marked xs K j) ∧ Below g w wr) (fun _ i _ => xs.length - (intOf i).toNat)
  case atStart => exact ⟨0, Nat.zero_le _, rfl, rfl, HO.out, Below.refl _ _⟩
  case round =>
    obtain ⟨j, hj, rfl, rfl, hown, hbr⟩ := hrel
    have hgr : g < wr.heap.size := Nat.lt_of_lt_of_le hg hbr.size
    by_cases hlj : j < xs.length
    · have HW := Lib.hid hown
      have HB := Lib.hid hbr
      clear hown hbr
      go_wp2_with fail
      refine (markText_any (K + j) (by omega) (by omega) wr).mono ?_
      rintro e w1 ⟨rfl, hb1⟩
      have hown1 := ownsRow_below HW.out hb1
      have c1 := (hown1.cellAt j (by omega)).trans (marked_at xs K j hlj)
      have z1 := hown1.frozenAt j
      have hst := hown1.stored j (.string (mk (K + j)))
      rw [marked_step xs K j hlj] at hst
      have HST := Lib.hid hst.1
      have HB1 := Lib.hid ((HB.out.trans (hb1.mono (Nat.le_of_lt hgr))).setCell (p := ⟨g, j, none⟩) (Nat.le_refl _) (.string (mk (K + j))))
      clear hst hown1 hb1
      go_wp2_with fail
      go_roundw
      case rel => exact ⟨j + 1, by omega, by go_num, by go_num, HST.out, HB1.out⟩
      case measure => simp [intOf]; omega
    · obtain rfl : j = xs.length := by omega
      rw [marked_all] at hown
      have HW := Lib.hid hown
      clear hown
      go_wp2_with fail
      go_ret
      exact ⟨rfl, HW.out, hbr⟩

theorem keep_both {w W w1 : World} {p : Addr} {v : Value} (hb1 : Below W.heap.size W w1) (h : W.cell? p = some v ∧ Below w.heap.size w W) : w1.cell? p = some v ∧ Below w.heap.size w w1 :=
  ⟨(hb1.cell (World.block_lt_of_cell? W p h.1)).trans h.1, h.2.trans (hb1.mono h.2.size)⟩

set_option maxRecDepth 100000 in
set_option maxHeartbeats 1000000 in
theorem held_some (n b o c : Nat) (K : Nat) (w : World) (h1 : 1 ≤ n) (hb : b < w.heap.size) (hK : 1 ≤ K) (hn : K + n ≤ 9223372036854775807) (hcell : ∀ j, j < n → w.cell? ⟨b, o + j, none⟩ = some (.string (mk (K + j)))) :
    Calls Try.prog 19 #[.slice (some ⟨b, o, none⟩) n c, .int .i64 K] w fun e w' => e = .returned (.int .i64 ((K + n : Nat) : Int)) ∧ Below w.heap.size w w' := by
  have HC := Lib.hid hcell
  clear hcell
  go_enter Try.func19, Try.ntmps19
  go_wp2_with fail
  go_loopw [1, 5] (fun q i wr => ∃ j : Nat, j ≤ n ∧ i = .int .i64 j ∧ q = .int .i64 ((K + j : Nat) : Int) ∧ Below w.heap.size w wr) (fun _ i _ => n - (intOf i).toNat)
  case atStart => exact ⟨0, Nat.zero_le _, rfl, rfl, Below.refl _ _⟩
  case round =>
    obtain ⟨j, hj, rfl, rfl, hbr⟩ := hrel
    by_cases hlj : j < n
    · have c1 : wr.cell? ⟨b, o + j, none⟩ = some (.string (mk (K + j))) := (hbr.cell (p := ⟨b, o + j, none⟩) hb).trans (HC.out j hlj)
      have i0 : (0 : Int) ≤ (j : Int) := Int.natCast_nonneg _
      have i1 : (j : Int) < (n : Int) := by omega
      go_wp2_with fail
      go_region_held3 (fun w' => w'.cell? ⟨b, o + j, none⟩ = some (.string (mk (K + j))) ∧ Below w.heap.size w w')
        (first
          | (go_keep; done)
          | exact ⟨by simp [*], hbr.drew⟩
          | exact keep_both hb1 (by assumption))
        (first | (go_at_call 28; refine (markText_any (K + j) (by omega) (by omega) _).mono ?_; rintro e w1 ⟨rfl, hb1⟩))
      rename_i hH
      have HB := Lib.hid hH.2
      clear hH hb1 c1
      go_wp2_with fail
      go_roundw
      case rel => exact ⟨j + 1, by omega, by go_num, by go_num, HB.out⟩
      case measure => simp [intOf]; omega
    · obtain rfl : j = n := by omega
      go_wp2_with fail
      go_ret
      exact ⟨rfl, hbr⟩

set_option maxRecDepth 100000 in
set_option maxHeartbeats 1000000 in
theorem held_none (a : Option Addr) (c : Nat) (K : Nat) (w : World) :
    Calls Try.prog 19 #[.slice a 0 c, .int .i64 K] w fun e w' => e = .returned (.int .i64 K) ∧ Below w.heap.size w w' := by
  go_enter Try.func19, Try.ntmps19
  go_wp2_with fail
  go_loopw [1, 5] (fun q i wr => q = .int .i64 K ∧ i = .int .i64 0 ∧ wr = w) (fun _ _ _ => 0)
  case atStart => exact ⟨rfl, rfl, rfl⟩
  case round =>
    obtain ⟨rfl, rfl, rfl⟩ := hrel
    go_wp2_with fail
    go_ret
    exact ⟨rfl, Below.refl _ _⟩

/-- THE LAWS' heldStringS WHERE THE MARKS STAND. -/
theorem held_any (n : Nat) (v : Value) (K : Nat) (w : World) (hK : 1 ≤ K) (hn : K + n ≤ 9223372036854775807) (h : SS w v (marks K n)) :
    Calls Try.prog 19 #[v, .int .i64 K] w fun e w' => e = .returned (.int .i64 ((K + n : Nat) : Int)) ∧ Below w.heap.size w w' := by
  rcases h with ⟨h0, a, c, rfl⟩ | ⟨h1, b, o, c, rfl, _, hb, hcell⟩
  · have hz : n = 0 := by have := congrArg List.length h0; rw [marks_length] at this; exact this
    subst hz
    exact held_none a c K w
  · rw [marks_length] at h1 ⊢
    exact held_some n b o c K w h1 hb hK hn (fun j hj => hcell j _ (marks_at K n j hj))
#print axioms held_any
#print axioms mark_any
end Go.Proofs.Ytjipomnemgeaeaa
