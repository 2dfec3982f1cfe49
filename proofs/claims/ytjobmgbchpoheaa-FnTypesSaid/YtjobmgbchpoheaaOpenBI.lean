/-
  A slice of bytes that came in: that its bytes can be read, out of the form's reading.
-/
import Derived.Test.YtjobmgbchpoheaaDrawI
import Derived.ProofKit
import Derived.OpenShut
namespace Go.Proofs.Ytjobmgbchpoheaa
open Go Go.ChangeShapes Go.WideShapes Go.RowKit

theorem Bytes_of_trod {H : Type} {enc : TypeId × Value → H} {P : Program} {W : World} {spare : Nat → Bool} {held : Bool} {t e : TypeId} {a : Option Addr} {len cap : Nat} {d : DataW H} {p : List MemPlace}
    (ht : P.underlying t = some (.slice e)) (he : P.underlying e = some (.int .u8)) (hc : P.cellsOf e = 1) (h : DataW.Trod enc P W 0 spare held t (.slice a len cap) d p) :
    len ≤ 9223372036854775807 ∧ Bytes W (.slice a len cap) := by
  obtain ⟨fuel, hf⟩ := h
  rcases open_ints ht he hc hf with ⟨hcs, _⟩ | ⟨a', len', cap', zs, hcs, _, hl, hm, hz, _, hcell, hwz⟩
  · obtain ⟨rfl, rfl, rfl⟩ : a = none ∧ len = 0 ∧ cap = 0 := by simpa [Value.cells] using hcs
    exact ⟨Nat.zero_le _, Or.inl ⟨_, _, rfl⟩⟩
  · obtain ⟨rfl, rfl, rfl⟩ : a = some a' ∧ len = len' ∧ cap = cap' := by simpa [Value.cells] using hcs
    unfold maxLen at hm
    refine ⟨by omega, ?_⟩
    by_cases h0 : len = 0
    · subst h0
      exact Or.inl ⟨_, _, rfl⟩
    · have hle : len ≤ zs.length := by rw [hz]; split <;> omega
      obtain ⟨b, off, rfl, hc2⟩ := ints_at hcell (by omega)
      refine Or.inr ⟨b, off, len, cap, rfl, World.block_lt_of_cell? W _ (hc2 0 (by omega)), by omega, fun j hj => ?_⟩
      have hj2 : j < zs.length := by omega
      have hb := bounds_u8 (hwz (zs.getD j 0) (by rw [List.getD_eq_getElem?_getD, List.getElem?_eq_getElem hj2]; exact List.getElem_mem hj2))
      exact ⟨_, hb.1, hb.2, hc2 j hj2⟩
end Go.Proofs.Ytjobmgbchpoheaa

