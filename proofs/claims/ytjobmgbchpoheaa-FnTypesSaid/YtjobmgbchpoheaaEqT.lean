/-
  The contract of the program's EqualType.
-/
import Derived.Test.YtjobmgbchpoheaaEqTreeT
namespace Go.Proofs.Ytjobmgbchpoheaa
open Go Go.RowKit

set_option maxRecDepth 100000 in
theorem eqKind_any {C : Nat → Prop} {x y : Ty} {v1 v2 : Value} {w : World} (h1 : TT w C x v1) (h2 : TT w C y v2) : Calls Try.prog 44 #[v1, v2] w (BoolRet (fun b => b = true ↔ x.kind = y.kind) w) := by
  obtain ⟨s1, rfl, hS1⟩ := h1
  obtain ⟨p1, c1, rfl⟩ := hS1.form
  obtain ⟨s2, rfl, hS2⟩ := h2
  obtain ⟨p2, c2, rfl⟩ := hS2.form
  clear hS1 hS2
  go_enter Try.func44, Try.ntmps44
  go_wp2_with fail
  go_ret
  exact ⟨_, by simp, rfl, ((Below.refl w.heap.size w).alloc (Nat.le_refl _) _).alloc (by simp) _⟩

set_option maxRecDepth 100000 in
theorem eqI_any {C C' : Nat → Prop} {t u : Ty} {v x : Value} {w : World} (h : TT w C t v) (h2 : TT w C' u x) (hn : nodesS t.args ≤ 2097152) :
    Calls Try.prog 13 #[v, x] w (BoolRet (fun b => b = true ↔ t = u) w) := by
  have hn' : t.nodes ≤ 2097153 := by have := t.nodes_eq; omega
  obtain ⟨s1, rfl, hS1⟩ := h
  obtain ⟨p1, c1, rfl⟩ := hS1.form
  obtain ⟨s2, rfl, hS2⟩ := h2
  obtain ⟨p2, c2, rfl⟩ := hS2.form
  have HA := Lib.hid (fun (W : World) (hb : Below w.heap.size w W) => eqTreesT_any (C := fun _ => True) (ntT_mk ((hS1.stays (.of_below hb)).mono (C' := fun _ => True) (fun _ _ _ => trivial))) (ntT_mk ((hS2.stays (.of_below hb)).mono (C' := fun _ => True) (fun _ _ _ => trivial))) hn' (fun x y => x.kind = y.kind) (fun _ => True) (fun _ _ _ _ => trivial) trivial
    (fun x y => ⟨fun e => by rw [e]; exact ⟨rfl, rfl⟩, fun e => Ty.ext e.1 e.2⟩) (fun x y v1 v2 W C _ h1 h2 => eqKind_any h1 h2))
  clear hS1 hS2
  go_enter Try.func13, Try.ntmps13
  go_wp2_with fail
  refine (HA.out _ (((Below.refl w.heap.size w).alloc (Nat.le_refl _) _).alloc (by simp) _)).mono ?_
  rintro e w1 ⟨r, hr, rfl, hb⟩
  have HR := Lib.hid hr
  have HB := Lib.hid hb
  clear hr hb
  go_wp2_with fail
  go_ret
  exact ⟨r, HR.out, rfl, (((Below.refl w.heap.size w).alloc (Nat.le_refl _) _).alloc (by simp) _).trans (HB.out.mono (by simp; omega))⟩
#print axioms eqI_any
end Go.Proofs.Ytjobmgbchpoheaa

