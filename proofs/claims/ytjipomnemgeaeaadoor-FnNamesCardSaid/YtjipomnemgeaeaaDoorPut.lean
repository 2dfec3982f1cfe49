/-
  Small facts of no program: a digit put in front of the digits that are there.
-/
import Derived.Test.YtjipomnemgeaeaaDoorNum
import Derived.Test.YtjipomnemgeaeaaDoorKit
namespace Go.Proofs.YtjipomnemgeaeaaDoor
open Go Go.RowKit

theorem ret_str {a b : List UInt8} (h : a = b) : Ending.returned (.string ⟨a.toArray⟩) = Ending.returned (.string ⟨b.toArray⟩) := by rw [h]
theorem rel_put (m : Nat) (h : ¬ m = 0) {l r : List UInt8} (hl : dec m ++ l = r) :
    Value.string ((⟨#[48 + UInt8.ofNat (m % 10)]⟩ : ByteArray) ++ ⟨l.toArray⟩) = Value.string ⟨(UInt8.ofNat (48 + m % 10) :: l).toArray⟩ ∧ dec (m / 10) ++ (UInt8.ofNat (48 + m % 10) :: l) = r := by
  refine ⟨?_, dec_put (by omega) hl⟩
  rw [str_cons, UInt8.ofNat_add]; rfl

end Go.Proofs.YtjipomnemgeaeaaDoor
