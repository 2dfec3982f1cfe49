/-
  The contracts of the draws of types: one type, two types.
-/
import Derived.Test.YtjobmgbchpoheaaBent
namespace Go.Proofs.Ytjobmgbchpoheaa
open Go Go.RowKit

theorem grown_start {w w1 w2 : World} (h : Below w.heap.size w w1) (hs : w1.heap.size = w.heap.size + 1) (hg : w1.grownBy w2 (some w.heap.size)) : Below w.heap.size w w2 :=
  h.grown hg (by omega) (fun k hk => by cases hk; exact Nat.le_refl _)

def DTy (w : World) (e : Ending) (w' : World) : Prop := ∃ v t, e = .returned v ∧ t.nodes ≤ 200 ∧ TT w' (fun z => w.heap.size ≤ z) t v ∧ Below w.heap.size w w'
def DTy2 (w : World) (e : Ending) (w' : World) : Prop := ∃ v x t u, e = .returned (.tuple #[v, x]) ∧ t.nodes ≤ 200 ∧ u.nodes ≤ 200 ∧ TT w' (fun z => w.heap.size ≤ z) t v ∧ TT w' (fun z => w.heap.size ≤ z) u x ∧ Below w.heap.size w w'

set_option maxRecDepth 100000 in
set_option maxHeartbeats 1000000 in
theorem drawValid_any (v : Value) (w : World) (hv : Bytes w v) (hlen : sliceLen v ≤ 1048576) : Calls Try.prog 6 #[v] w (DTy w) := by
  have ha := alloc_below w (.cells #[.int .i64 0, .slice none 0 0] 26)
  have HA := Lib.hid ha
  have HN := Lib.hid (new_any v _ (hv.below ha) hlen)
  have HR := Lib.hid (blk_new w (.cells #[.int .i64 0, .slice none 0 0] 26))
  clear hv hlen ha
  go_enter Try.func6, Try.ntmps6
  go_wp2_with fail
  refine HN.out.mono ?_
  rintro e w1 ⟨rfl, hc1, hb1, hs1⟩
  rw [World.size_alloc] at hc1 hb1 hs1
  rw [World.size_alloc]
  have HC1 := Lib.hid hc1
  have HB1 := Lib.hid hb1
  have HS1 := Lib.hid hs1
  clear hc1 hb1 hs1
  go_wp2_with fail
  refine (bent_any _ w1 HC1.out).mono ?_
  rintro e w2 ⟨v2, t, rfl, hn, hT, hc2, hg2⟩
  obtain ⟨s2, rfl, hS⟩ := hT
  obtain ⟨p, c, rfl⟩ := hS.form
  have hr2 := (hg2.block w.heap.size (by have := HS1.out; omega) (fun e => by have := Option.some.inj e; omega)).trans ((HB1.out.block w.heap.size (by omega)).trans HR.out)
  have g0 : w2.cell? ⟨w.heap.size, 0, none⟩ = some (.int .i64 0) := cell_of_blk hr2 0
  have g1 : w2.cell? ⟨w.heap.size, 1, none⟩ = some (.slice none 0 0) := cell_of_blk hr2 1
  have gz := unfrozen_of_blk hr2
  have HS := Lib.hid hS
  have HB2 := Lib.hid ((HA.out.trans (HB1.out.mono (by omega))).grown hg2 (by have := HS1.out; omega) (fun k hk => by cases hk; omega))
  have HL := Lib.hid HS1.out
  clear hS hc2 hg2 hr2
  go_wp2_with fail
  refine bodyPost_ret (v := .agg #[.int .i64 t.kind, .slice p t.args.length c]) ?_ rfl ?_
  · rw [results_cell1 rfl]
    go_simp
  · refine ⟨_, t, rfl, hn, ⟨_, rfl, (HS.out.stays ((setCell_stays _ _ _ _ _ (by have := HL.out; omega)).trans (setCell_stays _ _ _ _ _ (by have := HL.out; omega)))).mono (fun z hz _ => by have := HL.out; omega)⟩, ?_⟩
    exact (HB2.out.setCell (p := ⟨w.heap.size, 0, none⟩) (Nat.le_refl _) _).setCell (p := ⟨w.heap.size, 1, none⟩) (Nat.le_refl _) _
end Go.Proofs.Ytjobmgbchpoheaa

