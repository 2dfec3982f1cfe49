/-
  The contracts of the draws' cursor: one byte is drawn; the cursor's own block alone is written.
-/
import Derived.Test.YtjobmgbchpoheaaProg
import Derived.Test.YtjobmgbchpoheaaKit
import Derived.Test.YtjobmgbchpoheaaAnd
import Derived.WalkSmall
import Derived.Laws.OwnMore
import Derived.Deep.QuietTactic
import Derived.BigQuiet
namespace Go.Proofs.Ytjobmgbchpoheaa
open Go Go.RowKit

/-- v is a slice of bytes that can be read, their block below block b. -/
def CodeAt (w : World) (b : Nat) (v : Value) (len : Nat) : Prop :=
  ((∃ a cap, v = .slice a 0 cap) ∧ len = 0) ∨
  ∃ cb co cap, v = .slice (some ⟨cb, co, none⟩) len cap ∧ cb < b ∧ len ≤ 9223372036854775807 ∧ ∀ j, j < len → ∃ n : Int, 0 ≤ n ∧ n ≤ 255 ∧ w.cell? ⟨cb, co + j, none⟩ = some (.int .u8 n)
/-- Block b is a cursor. -/
def Cur (w : World) (b : Nat) : Prop := ∃ (v : Value) (len i : Nat) (h : Int), w.heap[b]? = some (.cells #[v, .int .i64 i, .int .i64 h] 71 (0, 0)) ∧ CodeAt w b v len ∧ i ≤ len
def ByteRet (b : Nat) (w : World) (e : Ending) (w' : World) : Prop := ∃ x : Int, e = .returned (.int .i64 x) ∧ 0 ≤ x ∧ x ≤ 255 ∧ Cur w' b ∧ w.grownBy w' (some b)

theorem cur_set2 {w : World} {b : Nat} {v i h x : Value} (hc : w.heap[b]? = some (.cells #[v, i, h] 71 (0, 0))) :
    (w.setCell ⟨b, 2, none⟩ x).heap[b]? = some (.cells #[v, i, x] 71 (0, 0)) ∧ w.grownBy (w.setCell ⟨b, 2, none⟩ x) (some b) :=
  ⟨heap_setCell_same w b 2 _ _ x hc, ⟨rfl, rfl, rfl, by simp, fun k _ hk => heap_setCell_other w ⟨b, 2, none⟩ k x (fun e => hk (by simp [e]))⟩⟩
theorem cur_set1 {w : World} {b : Nat} {v i h x : Value} (hc : w.heap[b]? = some (.cells #[v, i, h] 71 (0, 0))) :
    (w.setCell ⟨b, 1, none⟩ x).heap[b]? = some (.cells #[v, x, h] 71 (0, 0)) ∧ w.grownBy (w.setCell ⟨b, 1, none⟩ x) (some b) :=
  ⟨heap_setCell_same w b 1 _ _ x hc, ⟨rfl, rfl, rfl, by simp, fun k _ hk => heap_setCell_other w ⟨b, 1, none⟩ k x (fun e => hk (by simp [e]))⟩⟩
theorem grownBy_trans {a b c : World} {row : Option Nat} (h : a.grownBy b row) (k : b.grownBy c row) : a.grownBy c row :=
  ⟨k.os.trans h.os, k.tape.trans h.tape, k.output.trans h.output, Nat.le_trans h.size k.size, fun j hj hr => (k.block j (Nat.lt_of_lt_of_le hj h.size) hr).trans (h.block j hj hr)⟩
theorem grownBy_drewN {a b : World} {row : Option Nat} (h : a.grownBy b row) (n : Nat) : a.grownBy (b.drewN n) row := ⟨h.os, h.tape, h.output, h.size, h.block⟩
theorem CodeAt.grown {w w' : World} {b : Nat} {v : Value} {len : Nat} (h : CodeAt w b v len) (hg : w.grownBy w' (some b)) : CodeAt w' b v len := by
  rcases h with h | ⟨cb, co, cap, rfl, hb, hl, hc⟩
  · exact Or.inl h
  · refine Or.inr ⟨cb, co, cap, rfl, hb, hl, fun j hj => ?_⟩
    obtain ⟨n, h0, h1, h2⟩ := hc j hj
    exact ⟨n, h0, h1, hg.cell h2 (fun e => Nat.ne_of_lt hb (Option.some.inj e))⟩
/-- The three cells of a cursor. -/
theorem cur_cells {w : World} {b : Nat} {v i h : Value} (hc : w.heap[b]? = some (.cells #[v, i, h] 71 (0, 0))) :
    w.cell? ⟨b, 0, none⟩ = some v ∧ w.cell? ⟨b, 1, none⟩ = some i ∧ w.cell? ⟨b, 2, none⟩ = some h ∧ w.frozen? ⟨b, 1, none⟩ = false ∧ w.frozen? ⟨b, 2, none⟩ = false :=
  ⟨by rw [cell_of_row w b 0 _ _ _ hc]; rfl, by rw [cell_of_row w b 1 _ _ _ hc]; rfl, by rw [cell_of_row w b 2 _ _ _ hc]; rfl, frozen_of_row w b 1 _ _ hc, frozen_of_row w b 2 _ _ hc⟩
theorem byte_ret {w w1 : World} {b : Nat} {v : Value} {len i : Nat} {h x : Int} {n : Nat} (hcode : CodeAt w b v len) (hg : w.grownBy w1 (some b)) (hw : w1.heap[b]? = some (.cells #[v, .int .i64 i, .int .i64 h] 71 (0, 0))) (hi : i ≤ len)
    (h0 : 0 ≤ x) (h1 : x ≤ 255) : ByteRet b w (.returned (.int .i64 x)) (w1.drewN n) :=
  ⟨x, rfl, h0, h1, ⟨v, len, i, h, hw, hcode.grown (grownBy_drewN hg n), hi⟩, grownBy_drewN hg n⟩

theorem byte_ret1 {w w1 : World} {b : Nat} {v : Value} {len i : Nat} {h x : Int} (hcode : CodeAt w b v len) (hg : w.grownBy w1 (some b)) (hw : w1.heap[b]? = some (.cells #[v, .int .i64 i, .int .i64 h] 71 (0, 0))) (hi : i < len)
    (h0 : 0 ≤ x) (h1 : x ≤ 255) : ByteRet b w (.returned (.int .i64 x)) (w1.setCell ⟨b, 1, none⟩ (.int .i64 ((i : Int) + 1))) := by
  have hs := cur_set1 (x := .int .i64 ((i + 1 : Nat) : Int)) hw
  rw [show ((i : Int) + 1) = ((i + 1 : Nat) : Int) by omega]
  have hg2 := grownBy_trans hg hs.2
  exact ⟨x, rfl, h0, h1, ⟨v, len, i + 1, h, hs.1, hcode.grown hg2, hi⟩, hg2⟩

set_option maxRecDepth 100000 in
set_option maxHeartbeats 1000000 in
theorem byte_nil (a : Option Addr) (cap b i : Nat) (h : Int) (w : World) (hi : i ≤ 0) (hc : w.heap[b]? = some (.cells #[.slice a 0 cap, .int .i64 i, .int .i64 h] 71 (0, 0))) :
    Calls Try.prog 59 #[.pointer (some ⟨b, 0, none⟩)] w (ByteRet b w) := by
  obtain ⟨c0, c1, c2, z1, z2⟩ := cur_cells hc
  have ha := and255
  have HC := Lib.hid hc
  clear hc
  go_enter Try.func59, Try.ntmps59
  go_wp2_with fail
  generalize wrap64 (h * 6364136223846793005) = h0
  generalize wrap64 (h0 + 1442695040888963407) = h1
  obtain ⟨hw, hg⟩ := cur_set2 (x := .int .i64 h1) HC.out
  clear c0 c1 c2 z1 z2
  generalize w.setCell ⟨b, 2, none⟩ (.int .i64 h1) = w1 at *
  obtain ⟨c0, c1, c2, z1, z2⟩ := cur_cells hw
  have HW := Lib.hid hw
  have HG := Lib.hid hg
  clear hw hg
  go_quiet (fail)
  go_wp2_with fail
  go_quiet (fail)
  go_wp2_with fail
  go_ret
  exact byte_ret (n := _) (Or.inl ⟨⟨a, cap, rfl⟩, rfl⟩) (grownBy_drewN HG.out _) HW.out hi (by omega) (by omega)

set_option maxRecDepth 100000 in
set_option maxHeartbeats 1000000 in
theorem byte_end (b i cb co len cap : Nat) (h : Int) (w : World) (hi : i ≤ len) (hlast : ¬ i < len) (hcode : CodeAt w b (.slice (some ⟨cb, co, none⟩) len cap) len) (hc : w.heap[b]? = some (.cells #[.slice (some ⟨cb, co, none⟩) len cap, .int .i64 i, .int .i64 h] 71 (0, 0))) :
    Calls Try.prog 59 #[.pointer (some ⟨b, 0, none⟩)] w (ByteRet b w) := by
  obtain ⟨c0, c1, c2, z1, z2⟩ := cur_cells hc
  have ha := and255
  have HC := Lib.hid hc
  have HK := Lib.hid hcode
  clear hcode
  clear hc
  go_enter Try.func59, Try.ntmps59
  go_wp2_with fail
  generalize wrap64 (h * 6364136223846793005) = h0
  generalize wrap64 (h0 + 1442695040888963407) = h1
  obtain ⟨hw, hg⟩ := cur_set2 (x := .int .i64 h1) HC.out
  clear c0 c1 c2 z1 z2
  generalize w.setCell ⟨b, 2, none⟩ (.int .i64 h1) = w1 at *
  obtain ⟨c0, c1, c2, z1, z2⟩ := cur_cells hw
  have HW := Lib.hid hw
  have HG := Lib.hid hg
  clear hw hg
  go_quiet (fail)
  go_wp2_with fail
  go_quiet (fail)
  go_wp2_with fail
  go_ret
  exact byte_ret (n := _) HK.out (grownBy_drewN HG.out _) HW.out hi (by omega) (by omega)

set_option maxRecDepth 100000 in
set_option maxHeartbeats 1000000 in
theorem byte_more (b i cb co len cap : Nat) (h : Int) (w : World) (hlt : i < len) (hlen : len ≤ 9223372036854775807) (hcb : cb ≠ b) (n : Int) (hn0 : 0 ≤ n) (hn1 : n ≤ 255) (hcell : w.cell? ⟨cb, co + i, none⟩ = some (.int .u8 n))
    (hcode : CodeAt w b (.slice (some ⟨cb, co, none⟩) len cap) len) (hc : w.heap[b]? = some (.cells #[.slice (some ⟨cb, co, none⟩) len cap, .int .i64 i, .int .i64 h] 71 (0, 0))) :
    Calls Try.prog 59 #[.pointer (some ⟨b, 0, none⟩)] w (ByteRet b w) := by
  have i0 : (0 : Int) ≤ (i : Int) := Int.natCast_nonneg _
  have i1 : (i : Int) < (len : Int) := by omega
  obtain ⟨c0, c1, c2, z1, z2⟩ := cur_cells hc
  have ha := and255
  have HC := Lib.hid hc
  have HK := Lib.hid hcode
  have HL := Lib.hid hcell
  clear hcode hcell
  clear hc
  go_enter Try.func59, Try.ntmps59
  go_wp2_with fail
  generalize wrap64 (h * 6364136223846793005) = h0
  generalize wrap64 (h0 + 1442695040888963407) = h1
  obtain ⟨hw, hg⟩ := cur_set2 (x := .int .i64 h1) HC.out
  clear c0 c1 c2 z1 z2
  generalize w.setCell ⟨b, 2, none⟩ (.int .i64 h1) = w1 at *
  obtain ⟨c0, c1, c2, z1, z2⟩ := cur_cells hw
  have cc : w1.cell? ⟨cb, co + i, none⟩ = some (.int .u8 n) := hg.cell HL.out (fun e => hcb (Option.some.inj e))
  have HW := Lib.hid hw
  have HG := Lib.hid hg
  clear hw hg
  go_quiet (fail)
  go_wp2_with fail
  go_quiet (fail)
  go_wp2_with fail
  go_quiet (fail)
  go_wp2_with fail
  go_ret
  exact byte_ret1 HK.out (grownBy_drewN HG.out _) HW.out hlt (by omega) (by omega)

/-- ONE BYTE IS DRAWN. -/
theorem byte_any (b : Nat) (w : World) (hc : Cur w b) : Calls Try.prog 59 #[.pointer (some ⟨b, 0, none⟩)] w (ByteRet b w) := by
  obtain ⟨v, len, i, h, hw, hcode, hi⟩ := hc
  have hcode' := hcode
  rcases hcode with ⟨⟨a, cap, rfl⟩, rfl⟩ | ⟨cb, co, cap, rfl, hb, hl, hcell⟩
  · exact byte_nil a cap b i h w hi hw
  · by_cases hlt : i < len
    · obtain ⟨n, h0, h1, h2⟩ := hcell i hlt
      exact byte_more b i cb co len cap h w hlt hl (Nat.ne_of_lt hb) n h0 h1 h2 hcode' hw
    · exact byte_end b i cb co len cap h w hi hlt hcode' hw
#print axioms byte_any
end Go.Proofs.Ytjobmgbchpoheaa

