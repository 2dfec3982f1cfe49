/-
  The model's SizeOf, DepthOf, IsTerm at any term in memory.
-/
import Derived.Test.YtnciibngcaajgaaTmSpec
import Derived.Test.YtnciibngcaajgaaTmIsT
namespace Go.Proofs.Ytnciibngcaajgaa
open Go Go.RowKit

variable {C : Nat → Prop} {t : Tm} {v : Value} {w : World}
theorem sizeT_at (h : TM w C t v) (hn : t.wt ≤ 1048576) : Calls Try.prog 47 #[v] w (IntRet (fun r => r = ((t.nodes : Nat) : Int)) w) := by
  obtain ⟨tp, tc, rp, rc, p, c, rfl, hT⟩ := h
  exact sizeM_any _ w (Nat.le_refl _) hT hn
theorem depthT_at (h : TM w C t v) (hn : t.wt ≤ 1048576) : Calls Try.prog 51 #[v] w (IntRet (fun r => r = ((t.depth : Nat) : Int)) w) := by
  obtain ⟨tp, tc, rp, rc, p, c, rfl, hT⟩ := h
  exact depthM_any _ w (Nat.le_refl _) hT hn
end Go.Proofs.Ytnciibngcaajgaa

