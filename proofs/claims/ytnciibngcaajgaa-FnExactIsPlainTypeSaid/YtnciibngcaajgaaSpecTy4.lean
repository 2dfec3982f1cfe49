/-
  The model's SizeOfType and DepthOfType at a struct value.
-/
import Derived.Test.YtnciibngcaajgaaSpecTy3
namespace Go.Proofs.Ytnciibngcaajgaa
open Go Go.RowKit

theorem sizeT_any {C : Nat → Prop} {t : Ty} {v : Value} {w : World} (h : TT w C t v) (hn : nodesS t.args ≤ 1048576) :
    Calls Try.prog 38 #[v] w (IntRet (fun r => r = ((1 + nodesS t.args : Nat) : Int)) w) := by
  obtain ⟨s, rfl, hS⟩ := h
  exact size_any hS w t.kind (Stays.refl _ _) hn
theorem depthT_any {C : Nat → Prop} {t : Ty} {v : Value} {w : World} (h : TT w C t v) (hn : nodesS t.args ≤ 1048576) :
    Calls Try.prog 41 #[v] w (IntRet (fun r => r = ((1 + depthS t.args : Nat) : Int)) w) := by
  obtain ⟨s, rfl, hS⟩ := h
  exact depth_any hS w t.kind (Stays.refl _ _) hn
end Go.Proofs.Ytnciibngcaajgaa

