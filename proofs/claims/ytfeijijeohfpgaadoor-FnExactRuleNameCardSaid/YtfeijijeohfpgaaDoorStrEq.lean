/-
  Comparing strings, of no program: what the walk's test says.
-/
import Derived.Laws.Strings
namespace Go.Proofs.YtfeijijeohfpgaaDoor
open Go

theorem str_inj {a b : ByteArray} (h : a.toList = b.toList) : a = b := by
  rw [ByteArray.toList_eq, ByteArray.toList_eq] at h
  obtain ⟨⟨a⟩⟩ := a
  obtain ⟨⟨b⟩⟩ := b
  rw [show a = b from h]
theorem str_yes {a b : ByteArray} (h : a = b) : (a.toList == b.toList) = true := by rw [h]; simp
theorem str_no {a b : ByteArray} (h : ¬ a = b) : (a.toList == b.toList) = false := by
  rw [beq_eq_false_iff_ne]
  exact fun hc => h (str_inj hc)
end Go.Proofs.YtfeijijeohfpgaaDoor

