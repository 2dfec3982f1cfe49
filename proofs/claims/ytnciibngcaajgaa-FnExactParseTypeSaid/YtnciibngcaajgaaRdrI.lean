/-
  The program's reader of types: what its closures share, and the contract of accept.
-/
import Derived.Test.YtnciibngcaajgaaTypS2
namespace Go.Proofs.Ytnciibngcaajgaa
open Go Go.RowKit

abbrev fAcc (B : Nat) : Value := .func (.func 98) #[] #[.pointer (some ⟨B + 2, 0, none⟩), .pointer (some ⟨B, 0, none⟩)]
abbrev fTyp (B : Nat) : Value := .func (.func 100) #[] #[.pointer (some ⟨B + 3, 0, none⟩), .pointer (some ⟨B + 5, 0, none⟩)]
abbrev fPar (B : Nat) : Value := .func (.func 99) #[] #[.pointer (some ⟨B + 4, 0, none⟩), .pointer (some ⟨B + 3, 0, none⟩)]
/-- What the closures share, in the blocks from B on: the text, the place, the three functions. -/
structure Cl (B : Nat) (s : ByteArray) (i : Nat) (W : World) : Prop where
  bs : W.heap[B]? = some (.cells #[.string s] 9 (0, 0))
  ba : W.heap[B + 2]? = some (.cells #[.int .i64 i] 3 (0, 0))
  bf : W.heap[B + 3]? = some (.cells #[fAcc B] 117 (0, 0))
  bt : W.heap[B + 4]? = some (.cells #[fTyp B] 118 (0, 0))
  bp : W.heap[B + 5]? = some (.cells #[fPar B] 119 (0, 0))
namespace Cl
variable {B i : Nat} {s : ByteArray} {W W' : World}
theorem lt (h : Cl B s i W) : B + 5 < W.heap.size := (Array.getElem?_eq_some_iff.1 h.bp).1
theorem cells (h : Cl B s i W) : W.cell? ⟨B, 0, none⟩ = some (.string s) ∧ W.cell? ⟨B + 2, 0, none⟩ = some (.int .i64 i) ∧ W.cell? ⟨B + 3, 0, none⟩ = some (fAcc B) ∧ W.cell? ⟨B + 4, 0, none⟩ = some (fTyp B) ∧ W.cell? ⟨B + 5, 0, none⟩ = some (fPar B) ∧ W.frozen? ⟨B + 2, 0, none⟩ = false :=
  ⟨cell_of_blk h.bs 0, cell_of_blk h.ba 0, cell_of_blk h.bf 0, cell_of_blk h.bt 0, cell_of_blk h.bp 0, unfrozen_of_blk h.ba 0⟩
theorem belowAt {D : Nat} (h : Cl B s i W) (hD : B + 6 ≤ D) (hb : Below D W W') : Cl B s i W' :=
  ⟨(hb.block _ (by omega)).trans h.bs, (hb.block _ (by omega)).trans h.ba, (hb.block _ (by omega)).trans h.bf, (hb.block _ (by omega)).trans h.bt, (hb.block _ (by omega)).trans h.bp⟩
theorem below (h : Cl B s i W) (hb : Below W.heap.size W W') : Cl B s i W' := h.belowAt (by have := h.lt; omega) hb
theorem move (h : Cl B s i W) (j : Nat) : Cl B s j (W.setCell ⟨B + 2, 0, none⟩ (.int .i64 j)) ∧ W.grownBy (W.setCell ⟨B + 2, 0, none⟩ (.int .i64 j)) (some (B + 2)) := by
  have k : ∀ b, b ≠ B + 2 → (W.setCell ⟨B + 2, 0, none⟩ (.int .i64 j)).heap[b]? = W.heap[b]? := fun b hb => heap_setCell_other W ⟨B + 2, 0, none⟩ b _ hb
  exact ⟨⟨(k _ (by omega)).trans h.bs, heap_setCell_same W (B + 2) 0 _ _ _ h.ba, (k _ (by omega)).trans h.bf, (k _ (by omega)).trans h.bt, (k _ (by omega)).trans h.bp⟩,
    ⟨rfl, rfl, rfl, by simp, fun b _ hb => k b (fun e => hb (by simp [e]))⟩⟩
end Cl

/-- What accept leaves: whether the byte stood there, and the place behind it. -/
def AccRet (B : Nat) (s : ByteArray) (i : Nat) (c : UInt8) (w : World) (e : Ending) (w' : World) : Prop :=
  (bt s i = some c ∧ e = .returned (.bool true) ∧ Cl B s (i + 1) w' ∧ w.grownBy w' (some (B + 2))) ∨ (¬ bt s i = some c ∧ e = .returned (.bool false) ∧ Cl B s i w' ∧ w.grownBy w' (some (B + 2)))

set_option maxRecDepth 100000 in
set_option maxHeartbeats 1000000 in
theorem acc_any (B : Nat) (s : ByteArray) (i : Nat) (n : Int) (c : UInt8) (hn : n = c.toNat) (w : World) (hs : s.size ≤ 1073741824) (hi : i ≤ s.size) (h : Cl B s i w) :
    Calls Try.prog 98 #[.int .u8 n, .pointer (some ⟨B + 2, 0, none⟩), .pointer (some ⟨B, 0, none⟩)] w (AccRet B s i c w) := by
  obtain ⟨c0, c1, _, _, _, z1⟩ := h.cells
  have HC := Lib.hid h
  clear h
  by_cases hlt : i < s.size
  · have i0 : (0 : Int) ≤ (i : Int) := by omega
    have i1 : (i : Int) < (s.size : Int) := by omega
    have HA := Lib.hid (at_byte hlt)
    by_cases hc : s[i] = c
    · have he : ((s[i].toNat : Int) == n) = true := by rw [hn, hc]; simp
      have HH := Lib.hid hc
      clear hc hn
      go_enter Try.func98, Try.ntmps98
      go_wp2_with fail
      go_ret
      refine Or.inl ⟨by rw [← HH.out]; exact HA.out, rfl, ?_⟩
      rw [show ((i : Int) + 1) = ((i + 1 : Nat) : Int) by omega]
      exact HC.out.move (i + 1)
    · have he : ((s[i].toNat : Int) == n) = false := by
        rw [beq_eq_false_iff_ne, hn]
        exact fun e => hc (UInt8.toNat_inj.1 (by omega))
      have HH := Lib.hid hc
      clear hc hn
      go_enter Try.func98, Try.ntmps98
      go_wp2_with fail
      go_ret
      exact Or.inr ⟨fun e => HH.out (Option.some.inj (HA.out.symm.trans e)), rfl, HC.out, grown_refl _ _⟩
  · have i1 : (s.size : Int) ≤ (i : Int) := by omega
    clear hn
    go_enter Try.func98, Try.ntmps98
    go_wp2_with fail
    go_ret
    exact Or.inr ⟨fun e => (by rw [bt, at_none hlt] at e; cases e), rfl, HC.out, grown_refl _ _⟩
end Go.Proofs.Ytnciibngcaajgaa

