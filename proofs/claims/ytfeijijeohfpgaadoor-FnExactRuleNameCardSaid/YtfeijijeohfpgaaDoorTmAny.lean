/-
  The model's SizeOf, DepthOf, IsTerm at any term in memory.
-/
import Derived.Test.YtfeijijeohfpgaaDoorTmSpec
import Derived.Test.YtfeijijeohfpgaaDoorTmIsT
namespace Go.Proofs.YtfeijijeohfpgaaDoor
open Go Go.RowKit

variable {C : Nat → Prop} {t : Tm} {v : Value} {w : World}
theorem isT_at (h : TM w C t v) (hn : t.wt ≤ 2097152) : Calls Tryd.prog 31 #[v] w (Tells t.IsT w) := by
  obtain ⟨tp, tc, rp, rc, p, c, rfl, hT⟩ := h
  exact isTM_any _ w (Nat.le_refl _) hT hn
end Go.Proofs.YtfeijijeohfpgaaDoor

