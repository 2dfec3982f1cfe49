/-
  The contract of the draws' l1Pick.
-/
import Derived.Test.YtnciibngcaajgaaOnceI
namespace Go.Proofs.Ytnciibngcaajgaa
open Go Go.RowKit

def GStr (P : ByteArray → Prop) (b : Nat) (w : World) (e : Ending) (w' : World) : Prop := ∃ x : ByteArray, P x ∧ e = .returned (.string x) ∧ Cur w' b ∧ w.grownBy w' (some b)
set_option maxRecDepth 100000 in
set_option maxHeartbeats 1000000 in
theorem pickS_any (xs : List ByteArray) (n lb b : Nat) (w : World) (hn : xs.length = n) (hne : lb ≠ b) (h1 : 1 ≤ n) (h2 : n ≤ 1048576) (hcell : ∀ j x, xs[j]? = some x → w.cell? ⟨lb, j, none⟩ = some (.string x)) (hc : Cur w b) :
    Calls Try.prog 101 #[.pointer (some ⟨b, 0, none⟩), .slice (some ⟨lb, 0, none⟩) n n] w (GStr (· ∈ xs) b w) := by
  subst hn
  have HC := Lib.hid (below_any b xs.length w (by omega) (by omega) hc)
  have HX := Lib.hid hcell
  clear hc hcell
  go_enter Try.func101, Try.ntmps101
  go_wp2_with fail
  refine HC.out.mono ?_
  rintro e w1 ⟨x, hx, rfl, hc1, hg1⟩
  obtain ⟨k, rfl⟩ := Int.eq_ofNat_of_zero_le hx.1
  have hk : k < xs.length := by omega
  have cell : w1.cell? ⟨lb, k, none⟩ = some (.string xs[k]) := hg1.cell (HX.out k _ (List.getElem?_eq_getElem hk)) (fun e => hne (Option.some.inj e))
  have HC1 := Lib.hid hc1
  have HG1 := Lib.hid hg1
  clear hc1 hg1 hx
  go_wp2_with fail
  go_ret
  exact ⟨_, List.getElem_mem hk, rfl, HC1.out, HG1.out⟩

theorem grown_drewB {w W : World} {r : Option Nat} (h : w.grownBy W r) : w.grownBy W.drew r := ⟨h.os, h.tape, h.output, h.size, h.block⟩
theorem grownB_refl (w : World) (r : Option Nat) : w.grownBy w r := ⟨rfl, rfl, rfl, Nat.le_refl _, fun _ _ _ => rfl⟩

/-- A pick out of a literal. -/
theorem pickS_litG (L : List ByteArray) (n b : Nat) (w : World) (cs : Array Value) (hn : L.length = n) (h1 : 1 ≤ n) (h2 : n ≤ 1048576) (hcs : cs = (L.map Value.string).toArray) (hc : Cur w b) :
    Calls Try.prog 101 #[.pointer (some ⟨b, 0, none⟩), .slice (some ⟨w.heap.size, 0, none⟩) n n] (w.alloc (.cells cs 9)) (GStr (· ∈ L) b w) := by
  subst hn; subst hcs
  have hlt := hc.lt
  refine (pickS_any L L.length w.heap.size b _ rfl (by omega) h1 h2 (fun j x hj => ?_) (hc.below ((Below.refl _ _).alloc (Nat.le_refl _) _))).mono ?_
  · rw [World.cell?_alloc_at _ _ _ _ rfl, List.getElem?_toArray, List.getElem?_map, hj]; rfl
  · rintro e w' ⟨x, hx, rfl, hc', hg⟩
    exact ⟨x, hx, rfl, hc', grownBy_trans (World.grownBy_alloc _ _ _) hg⟩
end Go.Proofs.Ytnciibngcaajgaa

