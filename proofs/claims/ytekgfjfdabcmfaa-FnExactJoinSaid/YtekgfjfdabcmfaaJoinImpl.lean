/-
  The contract of the program's Join, and how long what is put together can be.
-/
import Derived.Test.YtekgfjfdabcmfaaJoinSpec
import Derived.Test.YtekgfjfdabcmfaaSz
import Derived.Test.YtekgfjfdabcmfaaShelf
namespace Go.Proofs.Ytekgfjfdabcmfaa
open Go Go.RowKit

theorem lens_bs (xs : List ByteArray) : Lib.lens (bs xs) = sumSz xs := by
  induction xs with
  | nil => rfl
  | cons x r ih =>
    have e : Lib.lens (bs (x :: r)) = x.data.toList.length + Lib.lens (bs r) := by simp [bs, Lib.lens]
    rw [e, ih, sumSz, Lib.size_eq]
theorem join_len (xs : List ByteArray) (sep : ByteArray) : (Lib.join (bs xs) sep.data.toList).length ≤ sep.size * xs.length + sumSz xs := by
  cases xs with
  | nil => simp [bs, Lib.join_nil]
  | cons x r =>
    have e : bs (x :: r) = x.data.toList :: bs r := rfl
    have hl : (bs r).length = r.length := by simp [bs]
    rw [e, Lib.join_length, ← e, lens_bs, hl, List.length_cons, ← Lib.size_eq, Nat.mul_add]
    omega
theorem join_small {xs : List ByteArray} {sep : ByteArray} (h1 : xs.length ≤ 1048576) (h2 : sep.size ≤ 1048576) (h3 : sumSz xs ≤ 1048576) : (Lib.join (bs xs) sep.data.toList).length ≤ 140737488355328 := by
  have h := join_len xs sep
  have h4 : sep.size * xs.length ≤ 1048576 * 1048576 := Nat.mul_le_mul h2 h1
  omega

theorem joinL_any (xs : List ByteArray) (v : Value) (sep : ByteArray) (w : World) (hn : xs.length ≤ 1048576) (hlen : (Lib.join (bs xs) sep.data.toList).length ≤ 140737488355328) (h : SS w v xs) :
    Calls Try.prog 9 #[v, .string sep] w fun e w' => e = .returned (.string ⟨(Lib.join (bs xs) sep.data.toList).toArray⟩) ∧ Below w.heap.size w w' := by
  rcases h with ⟨rfl, a, c, rfl⟩ | ⟨h1, b, o, c, rfl, hc, hb, hcell⟩
  · exact (Try.strings_Join_none a c sep w).mono fun e w' ⟨he, hw⟩ => ⟨he, by rw [hw]; exact Below.refl _ _⟩
  · exact Try.strings_Join b o c xs sep w hcell hb (by omega) hc hlen

set_option maxHeartbeats 400000 in
theorem joinI_any (xs : List ByteArray) (v : Value) (sep : ByteArray) (w : World) (hn : xs.length ≤ 1048576) (hlen : (Lib.join (bs xs) sep.data.toList).length ≤ 140737488355328) (h : SS w v xs) :
    Calls Try.prog 7 #[v, .string sep] w fun e w' => e = .returned (.string ⟨(Lib.join (bs xs) sep.data.toList).toArray⟩) ∧ Below w.heap.size w w' := by
  have HC := Lib.hid (joinL_any xs v sep w hn hlen h)
  clear hn hlen h
  go_enter Try.func7, Try.ntmps7
  go_wp2_with (go_at_call 9; refine HC.out.mono ?_; rintro e w1 ⟨rfl, hb1⟩)
  go_ret
  exact ⟨rfl, hb1⟩
end Go.Proofs.Ytekgfjfdabcmfaa
