/-
  The contract of the program's SplitByte: a new slice with the pieces between the separators.
-/
import Derived.Test.YtekgfjfdabcmfaaDoorSplitSpec
import Derived.Test.YtekgfjfdabcmfaaDoorShelf
import Derived.Shelf.Strings.SplitShaped
namespace Go.Proofs.YtekgfjfdabcmfaaDoor
open Go Go.RowKit

/-- The variable that the library's search reads holds some number. -/
def MaxLenIs (w : World) : Prop := ∃ m : Int, w.cell? ⟨3, 0, none⟩ = some (.int .i64 m)
theorem MaxLenIs.below {w w' : World} (h : MaxLenIs w) (hb : Below w.heap.size w w') : MaxLenIs w' := by
  obtain ⟨m, hm⟩ := h
  exact ⟨m, (hb.cell (World.block_lt_of_cell? w _ hm)).trans hm⟩
theorem maxLen_shaped {w : World} (h : w.ShapedOpen Tryd.prog) : MaxLenIs w := Tryd.laysM146.s1_3 w h

theorem bs_split (s : ByteArray) (c : UInt8) : bs (Lib.splitB ⟨#[c]⟩ 0 (Lib.countB s ⟨#[c]⟩) s) = cutL c s.data.toList := by
  have h := Lib.splitB_data ⟨#[c]⟩ 0 (Lib.countB s ⟨#[c]⟩) s
  have e : (⟨#[c]⟩ : ByteArray).data.toList = [c] := rfl
  rw [e] at h
  unfold bs
  rw [h]
  exact splitK_cut c s.data.toList
theorem len_split (s : ByteArray) (c : UInt8) : (Lib.splitB ⟨#[c]⟩ 0 (Lib.countB s ⟨#[c]⟩) s).length = Lib.countB s ⟨#[c]⟩ + 1 := Lib.splitB_all ⟨#[c]⟩ (Nat.le_refl _) 0 _ s rfl

theorem splitL_any (s : ByteArray) (c : UInt8) (w : World) (hs : s.size ≤ 1048576) (hm : MaxLenIs w) :
    Calls Tryd.prog 35 #[.string s, .string ⟨#[c]⟩] w (SplitRet s c w) := by
  obtain ⟨m, hm⟩ := hm
  refine (Any.strings_Split { Tryd.laysM146 with } Tryd.laysM146.i9 s ⟨#[c]⟩ m w (by omega) hm (Nat.le_refl _)).mono ?_
  rintro e w' ⟨rfl, rfl⟩
  have hl := len_split s c
  have hle := Lib.countB_le ⟨#[c]⟩ (Nat.le_refl _) s.size s (Nat.le_refl _)
  refine ⟨_, Lib.splitB ⟨#[c]⟩ 0 (Lib.countB s ⟨#[c]⟩) s, rfl, bs_split s c, ?_, (Below.refl _ _).alloc (Nat.le_refl _) _⟩
  rw [hl]
  have h := World.ownsRow_lit (base := w.heap.size) (e := 9) (size := 1) w ((Lib.splitB ⟨#[c]⟩ 0 (Lib.countB s ⟨#[c]⟩) s).map Value.string).toArray (Lib.countB s ⟨#[c]⟩ + 1) (Nat.le_refl _) (by unfold maxLen; omega) (by rw [List.size_toArray, List.length_map, hl, Nat.mul_one])
  exact h

set_option maxHeartbeats 400000 in
theorem splitI_any (s : ByteArray) (c : UInt8) (w : World) (hs : s.size ≤ 1048576) (hm : MaxLenIs w) :
    Calls Tryd.prog 18 #[.string s, .int .u8 c.toNat] w (SplitRet s c w) := by
  have hb0 : Below w.heap.size w (w.alloc (.cells #[.int .u8 c.toNat] 5)) := (Below.refl _ _).alloc (Nat.le_refl _) _
  have HC := Lib.hid (splitL_any s c (w.alloc (.cells #[.int .u8 c.toNat] 5)) hs (hm.below hb0))
  have kc := run_string_byte (P := Tryd.prog) w 22 9 5 (c.toNat : Int) (by omega) (by have := c.toNat_lt; omega) Tryd.underlying22 Tryd.underlying5 Tryd.underlying9
  rw [show UInt8.ofNat (c.toNat : Int).toNat = c from by simp] at kc
  have HB := Lib.hid hb0
  clear hm hb0
  go_enter Tryd.func18, Tryd.ntmps18
  go_wp2_with fail
  refine HC.out.mono ?_
  rintro e w1 ⟨v, ps, rfl, hps, hown, hb1⟩
  have HP := Lib.hid hps
  have HO := Lib.hid hown
  have HB1 := Lib.hid (HB.out.trans (hb1.mono HB.out.size))
  clear hps hown hb1
  go_wp2_with fail
  go_ret
  exact ⟨v, ps, rfl, HP.out, ownsRow_mono HO.out HB.out.size, HB1.out⟩
end Go.Proofs.YtekgfjfdabcmfaaDoor
