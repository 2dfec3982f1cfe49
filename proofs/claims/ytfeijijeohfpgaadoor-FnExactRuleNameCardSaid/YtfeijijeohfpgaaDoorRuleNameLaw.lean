/-
  The table of the program that holds the names of rules; RuleName: the contracts of the model's and of the program's, and the walk of the law.
-/
import Derived.Test.YtfeijijeohfpgaaDoorKA
import Derived.Test.YtfeijijeohfpgaaDoorStrTab
import Derived.Test.YtfeijijeohfpgaaDoorLvS
import Derived.Lib.SmallJoins
namespace Go.Proofs.YtfeijijeohfpgaaDoor
open Go Go.RowKit

theorem gRN : Tryd.prog.globalNamed "loop.example/g00589/impl.ruleNames" = some 0 := by kernel_rfl
def rnTab : List (List UInt8) := [[110, 111, 110, 101], [111, 112], [105, 102], [97, 112, 112], [114, 101, 99], [108, 101, 116], [115, 112, 108, 105, 99, 101], [114, 117, 110], [108, 105, 102, 116]]
/-- The table reads as the program's text lays it. -/
def RN (w : World) : Prop := w.var? Tryd.prog "loop.example/g00589/impl.ruleNames" = some (rnTab.map fun z => Value.string ⟨z.toArray⟩).toArray ∧ 0 < w.heap.size
theorem RN.below {w w' : World} (h : RN w) (hb : Below w.heap.size w w') : RN w' := ⟨(var?_below hb gRN h.2 h.1), Nat.lt_of_lt_of_le h.2 hb.size⟩
theorem RN.cell {w : World} (h : RN w) (i : Nat) : w.cell? ⟨0, i, none⟩ = ((rnTab.map fun z => Value.string ⟨z.toArray⟩).toArray)[i]? := World.var?_cell gRN h.1 i

def rname (k : Int) : ByteArray := if 0 ≤ k ∧ k ≤ 8 then ⟨(rnTab.getD k.toNat []).toArray⟩ else ⟨#[63]⟩
theorem rname_out {k : Int} (h : ¬ (0 ≤ k ∧ k ≤ 8)) : rname k = ⟨#[63]⟩ := if_neg h
theorem rcases8 {k : Int} (h : 0 ≤ k ∧ k ≤ 8) : k = 0 ∨ k = 1 ∨ k = 2 ∨ k = 3 ∨ k = 4 ∨ k = 5 ∨ k = 6 ∨ k = 7 ∨ k = 8 := by omega
def NameRet (s : ByteArray) (w : World) (e : Ending) (w' : World) : Prop := e = .returned (.string s) ∧ Below w.heap.size w w'
set_option maxRecDepth 100000 in
set_option maxHeartbeats 4000000 in
theorem rnS_any (k : Int) (w : World) : Calls Tryd.prog 27 #[.int .i64 k] w (NameRet (rname k) w) := by
  by_cases h : 0 ≤ k ∧ k ≤ 8
  · rcases rcases8 h with rfl | rfl | rfl | rfl | rfl | rfl | rfl | rfl | rfl
    all_goals
      clear h
      go_enter Tryd.func27, Tryd.ntmps27
      go_wp2_with fail
      refine (in_any _ 0 8 _).mono ?_
      rintro e w1 ⟨rfl, rfl⟩
      go_wp2_with fail
      go_ret
      exact ⟨rfl, (Below.refl _ _).alloc (Nat.le_refl _) _⟩
  · rw [rname_out h]
    go_enter Tryd.func27, Tryd.ntmps27
    go_wp2_with fail
    refine (in_any k 0 8 _).mono ?_
    rintro e w1 ⟨rfl, rfl⟩
    have hd : decide (0 ≤ k ∧ k ≤ 8) = false := decide_eq_false h
    go_wp2_with fail
    go_ret
    exact ⟨rfl, Below.refl _ _⟩
set_option maxRecDepth 100000 in
set_option maxHeartbeats 1000000 in
theorem rnI_any (k : Int) (w : World) (hk : RN w) : Calls Tryd.prog 28 #[.int .i64 k] w (NameRet (rname k) w) := by
  by_cases h0 : k < 0
  · rw [rname_out (by omega)]
    have t1 : decide (k < 0) = true := by simp [h0]
    clear h0 hk
    go_enter Tryd.func28, Tryd.ntmps28
    go_wp2_with fail
    go_ret
    exact ⟨rfl, Below.refl _ _⟩
  · have t1 : decide (k < 0) = false := by simp; omega
    by_cases h8 : k > 8
    · rw [rname_out (by omega)]
      have t2 : decide (8 < k) = true := by simp; omega
      clear h0 h8 hk
      go_enter Tryd.func28, Tryd.ntmps28
      go_wp2_with fail
      go_ret
      exact ⟨rfl, Below.refl _ _⟩
    · have t2 : decide (8 < k) = false := by simp; omega
      have hin : 0 ≤ k ∧ k ≤ 8 := by omega
      obtain ⟨n, rfl⟩ := Int.eq_ofNat_of_zero_le hin.1
      have hc := hk.cell n
      rw [List.getElem?_toArray, List.getElem?_map, List.getElem?_eq_getElem (by show n < 9; omega)] at hc
      have hkm : rname (n : Int) = ⟨(rnTab[n]'(by show n < 9; omega)).toArray⟩ := by
        unfold rname
        rw [if_pos hin, List.getD_eq_getElem?_getD, show ((n : Int)).toNat = n from rfl, List.getElem?_eq_getElem (by show n < 9; omega)]
        rfl
      simp only [Option.map_some, ← hkm] at hc
      have i0 : (0 : Int) ≤ (n : Int) := Int.natCast_nonneg _
      have i1 : (n : Int) < 9 := by omega
      clear hin hkm h0 h8 hk
      go_enter Tryd.func28, Tryd.ntmps28
      go_wp2_with fail
      go_ret
      exact ⟨rfl, Below.refl _ _⟩
set_option maxRecDepth 100000 in
theorem lawRuleName (k : Int) (w : World) (hk : RN w) : Calls Tryd.prog 9 #[.int .i64 k] w fun e w' => e = .returned (.bool true) ∧ Below w.heap.size w w' := by
  have HK := Lib.hid (fun (w' : World) (hb : Below w.heap.size w w') => hk.below hb)
  go_enter Tryd.func9, Tryd.ntmps9
  go_wp2_with fail
  refine (rnS_any k w).mono ?_
  rintro e w1 ⟨rfl, hb1⟩
  have HB1 := Lib.hid hb1
  clear hb1
  go_wp2_with fail
  refine (rnI_any k w1 (HK.out _ HB1.out)).mono ?_
  rintro e w2 ⟨rfl, hb2⟩
  have HB2 := Lib.hid (HB1.out.trans (hb2.mono HB1.out.size))
  clear hb2
  go_wp2_with fail
  go_ret
  exact ⟨rfl, HB2.out⟩
end Go.Proofs.YtfeijijeohfpgaaDoor

