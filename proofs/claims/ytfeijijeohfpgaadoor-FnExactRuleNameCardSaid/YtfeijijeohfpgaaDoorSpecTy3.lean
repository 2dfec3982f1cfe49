/-
  The contracts of the model's IsValidType, IsBase, IsPlainType.
-/
import Derived.Test.YtfeijijeohfpgaaDoorSpecTy2
namespace Go.Proofs.YtfeijijeohfpgaaDoor
open Go Go.RowKit

def Ty.valid (t : Ty) : Bool := decide (t.nodes ≤ 30) && decide (t.depth ≤ 8) && t.form
def Ty.base (t : Ty) : Bool := decide ((t.kind = 1 ∨ t.kind = 2) ∧ t.args.length = 0)
def Ty.plain (t : Ty) : Bool := t.valid && !t.has 4

set_option maxRecDepth 100000 in
set_option maxHeartbeats 1000000 in
theorem valid_any {C : Nat → Prop} {t : Ty} {v : Value} {w : World} (h : TT w C t v) (hn : nodesS t.args ≤ 2097152) :
    Calls Tryd.prog 80 #[v] w (BoolRet (fun r => r = t.valid) w) := by
  obtain ⟨s, rfl, hS⟩ := h
  obtain ⟨p, c, rfl⟩ := hS.form
  have hb0 := (Below.refl w.heap.size w).alloc (Nat.le_refl _) (Obj.cells #[.int .i64 t.kind, .slice p t.args.length c] 32)
  have HB0 := Lib.hid hb0
  have HL := Lib.hid (left_any hS _ t.kind 30 (.of_below hb0) hn (by omega) (by omega))
  have HD := Lib.hid (fun w' (hw : Below w.heap.size w w') => depth_any hS w' t.kind (.of_below hw) hn)
  have HF := Lib.hid (fun w' (hw : Below w.heap.size w w') => form_any hS w' t.kind (.of_below hw) hn)
  have hdn := depthS_nodes t.args
  clear hS hb0
  have HV := Lib.hid (show t.valid = (decide (1 + nodesS t.args ≤ 30) && decide (1 + depthS t.args ≤ 8) && (Ty.mk t.kind t.args).form) by rw [Ty.valid, Ty.nodes_eq, depth_at, ← Ty.eta])
  go_enter Tryd.func80, Tryd.ntmps80
  go_wp2_with fail
  refine HL.out.mono ?_
  rintro e w1 ⟨r, hr, rfl, hb1⟩
  obtain ⟨c0, c1⟩ := box2 hb1
  have HB1 := Lib.hid (HB0.out.trans (hb1.mono HB0.out.size))
  have HR := Lib.hid hr
  have hrr := hr.range (by omega)
  by_cases h0 : 0 ≤ r
  · have hn30 : 1 + nodesS t.args ≤ 30 := by unfold LeftEnds at hr; omega
    clear hr hb1
    go_wp2_with fail
    refine (HD.out w1 HB1.out).mono ?_
    rintro e w2 ⟨d, rfl, rfl, hb2⟩
    have c20 := (hb2.cell (World.block_lt_of_cell? w1 _ c0)).trans c0
    have c21 := (hb2.cell (World.block_lt_of_cell? w1 _ c1)).trans c1
    have HB2 := Lib.hid (HB1.out.trans (hb2.mono HB1.out.size))
    clear hb2 c0 c1
    by_cases h8 : 1 + depthS t.args ≤ 8
    · go_wp2_with fail
      refine (HF.out w2 HB2.out).mono ?_
      rintro e w3 ⟨f, hf, rfl, hb3⟩
      have HB3 := Lib.hid (HB2.out.trans (hb3.mono HB2.out.size))
      have HFF := Lib.hid hf
      clear hf hb3
      go_wp2_with fail
      go_ret
      exact ⟨_, by rw [HV.out, ← HFF.out]; simp [hn30, h8], rfl, HB3.out⟩
    · go_wp2_with fail
      go_ret
      exact ⟨_, by rw [HV.out]; simp [h8], rfl, HB2.out⟩
  · have hn30 : ¬ 1 + nodesS t.args ≤ 30 := by unfold LeftEnds at hr; omega
    clear hr hb1
    go_wp2_with fail
    go_ret
    exact ⟨_, by rw [HV.out]; simp [hn30], rfl, HB1.out⟩

theorem formS_cons (t : Ty) (ts : List Ty) : formS (t :: ts) = true ↔ t.form = true ∧ formS ts = true := by simp [formS]
theorem form_mk (k : Int) (ts : List Ty) : (Ty.mk k ts).form = true ↔ formS ts = true ∧ ((k = 1 ∨ k = 2) ∧ ts.length = 0 ∨ k = 3 ∧ ts.length = 2 ∨ k = 4 ∧ ts.length = 1) := by
  simp only [Ty.form, Bool.and_eq_true]
  refine and_congr Iff.rfl ?_
  split
  · next h => simp only [beq_iff_eq]; omega
  · split
    · next h => simp only [beq_iff_eq]; omega
    · simp only [Bool.and_eq_true, beq_iff_eq]; omega
theorem valid_iff (t : Ty) : t.valid = true ↔ t.nodes ≤ 30 ∧ t.depth ≤ 8 ∧ t.form = true := by simp [Ty.valid, and_assoc]
end Go.Proofs.YtfeijijeohfpgaaDoor

