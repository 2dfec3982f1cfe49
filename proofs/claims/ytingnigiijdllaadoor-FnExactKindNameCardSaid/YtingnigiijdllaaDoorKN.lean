/-
  The table of the program that holds the names of kinds.
-/
import Derived.Test.YtingnigiijdllaaDoorAid
import Derived.Lib.LaidTab
namespace Go.Proofs.YtingnigiijdllaaDoor
open Go Go.RowKit

theorem gKN : Tryd.prog.globalNamed "loop.example/g00589/impl.kindNames" = some 0 := by kernel_rfl
def knTab : List (List UInt8) := [[], [118, 97, 114], [105, 110, 116], [98, 111, 111, 108], [111, 112], [105, 102], [108, 97, 109], [97, 112, 112], [108, 101, 116], [114, 101, 99], [113, 117, 111, 116, 101], [115, 112, 108, 105, 99, 101], [114, 117, 110], [108, 105, 102, 116]]
def strData {H : Type} (zs : List (List UInt8)) : DataW H := .agg (zs.map fun z => .lit (.string z))
/-- The table reads as the program's text lays it. -/
def KN (w : World) : Prop := w.var? Tryd.prog "loop.example/g00589/impl.kindNames" = some (knTab.map fun z => Value.string ⟨z.toArray⟩).toArray ∧ 0 < w.heap.size
theorem KN.below {w w' : World} (h : KN w) (hb : Below w.heap.size w w') : KN w' := ⟨(var?_below hb gKN h.2 h.1), Nat.lt_of_lt_of_le h.2 hb.size⟩
theorem KN.cell {w : World} (h : KN w) (i : Nat) : w.cell? ⟨0, i, none⟩ = ((knTab.map fun z => Value.string ⟨z.toArray⟩).toArray)[i]? := World.var?_cell gKN h.1 i

theorem cells_of_strs {H : Type} {enc : TypeId × Value → H} {P : Program} {w : World} {base : Nat} {sp : Nat → Bool} {held : Bool} {fuel : Nat} {t e : TypeId} {n : Nat} {cs : List Value} {zs : List (List UInt8)} {p : List MemPlace}
    (ht : P.underlying t = some (.array n e)) (he : P.underlying e = some .string) (hce : P.cellsOf e = 1) (hct : P.cellsOf t = n)
    (h : DataW.trod enc P w base sp held fuel t cs = some (strData zs, p)) : cs = zs.map fun z => Value.string ⟨z.toArray⟩ := by
  cases fuel with
  | zero => simp [DataW.trod] at h
  | succ fuel =>
    simp only [DataW.trod, ht, hce, hct, Nat.mul_one] at h
    split at h
    · rename_i hl
      obtain ⟨xs, hm, hx⟩ := Option.map_eq_some_iff.1 h
      have hxs : xs.map (·.1) = zs.map fun z => (DataW.lit (.string z) : DataW H) := by
        have := congrArg Prod.fst hx
        simpa [strData] using this
      have hxl : xs.length = n := by simpa using Lib.mapM_length hm
      have hzl : zs.length = n := by
        have := congrArg List.length hxs
        simp at this
        omega
      apply List.ext_getElem?
      intro i
      by_cases hi : i < n
      · obtain ⟨b, hb, hf⟩ := Lib.mapM_at hm i i (by simp [hi])
        obtain ⟨s, hc, rfl, _⟩ := DataW.trod_string he hf
        have h1 : cs[i]? = some (.string s) := by
          have := congrArg (·[0]?) hc
          simpa [List.getElem?_take, List.getElem?_drop] using this
        have h2 : (xs.map (·.1))[i]? = some (DataW.lit (.string s.data.toList) : DataW H) := by simp [hb]
        rw [hxs] at h2
        simp only [List.getElem?_map, Option.map_eq_some_iff, DataW.lit.injEq, Lit.string.injEq] at h2
        obtain ⟨z', hz', e⟩ := h2
        subst e
        simp [h1, hz']
      · rw [List.getElem?_eq_none (by omega), List.getElem?_eq_none (by simp; omega)]
    · cases h
theorem strs_of_head {P : Program} {W : World} {name : String} {zs : List (List UInt8)} {rest : List (String × DataW Unit)} {g : Nat} {t e : TypeId} {n : Nat}
    (hg : P.globalNamed name = some g) (hty : (P.globals[g]?).map (·.type) = some t) (ht : P.underlying t = some (.array n e)) (he : P.underlying e = some .string) (hce : P.cellsOf e = 1) (hct : P.cellsOf t = n)
    (h : laidMet P ((name, strData zs) :: rest) W) : W.var? P name = some (zs.map fun z => Value.string ⟨z.toArray⟩).toArray := by
  obtain ⟨ps, ⟨g', t', cs, fuel, p, q, hg', ht', hvar, hd, _, _⟩, _⟩ := h
  obtain rfl := Option.some.inj (hg.symm.trans hg')
  obtain rfl := Option.some.inj (hty.symm.trans ht')
  rw [hvar, ← cells_of_strs ht he hce hct hd]
end Go.Proofs.YtingnigiijdllaaDoor

