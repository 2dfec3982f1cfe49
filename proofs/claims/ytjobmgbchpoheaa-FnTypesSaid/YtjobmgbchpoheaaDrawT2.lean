/-
  The contract of the draws' l3Fun: a function over two copies.
-/
import Derived.Test.YtjobmgbchpoheaaDrawT1
namespace Go.Proofs.Ytjobmgbchpoheaa
open Go Go.RowKit

theorem Two.four {w : World} {k1 k2 : Int} {s1 s2 : Value} {W : World} (h : Two w k1 k2 s1 s2 W) : W.cell? ⟨w.heap.size, 0, none⟩ = some (.int .i64 k1) ∧ W.cell? ⟨w.heap.size, 1, none⟩ = some s1 ∧ W.cell? ⟨w.heap.size + 1, 0, none⟩ = some (.int .i64 k2) ∧ W.cell? ⟨w.heap.size + 1, 1, none⟩ = some s2 :=
  ⟨h.b1.1, h.b1.2, h.b2.1, h.b2.2⟩
theorem keepS4 {W : World} {b i a1 a2 a3 a4 i1 i2 i3 i4 : Nat} {v u1 u2 u3 u4 : Value} (h : W.cell? ⟨a1, i1, none⟩ = some u1 ∧ W.cell? ⟨a2, i2, none⟩ = some u2 ∧ W.cell? ⟨a3, i3, none⟩ = some u3 ∧ W.cell? ⟨a4, i4, none⟩ = some u4) (h1 : a1 ≠ b) (h2 : a2 ≠ b) (h3 : a3 ≠ b) (h4 : a4 ≠ b) :
    (W.setCell ⟨b, i, none⟩ v).cell? ⟨a1, i1, none⟩ = some u1 ∧ (W.setCell ⟨b, i, none⟩ v).cell? ⟨a2, i2, none⟩ = some u2 ∧ (W.setCell ⟨b, i, none⟩ v).cell? ⟨a3, i3, none⟩ = some u3 ∧ (W.setCell ⟨b, i, none⟩ v).cell? ⟨a4, i4, none⟩ = some u4 := by
  have k : ∀ {p : Addr} {u : Value}, W.cell? p = some u → p.block ≠ b → (W.setCell ⟨b, i, none⟩ v).cell? p = some u := fun {p u} hp hne => (World.cell?_of_block (heap_setCell_other W ⟨b, i, none⟩ p.block v hne)).trans hp
  exact ⟨k h.1 h1, k h.2.1 h2, k h.2.2.1 h3, k h.2.2.2 h4⟩
def TwoRet (t : Ty) (w : World) (k1 k2 : Int) (s1 s2 : Value) (W : World) (e : Ending) (W' : World) : Prop :=
  ∃ (p : Option Addr) (c : Nat), e = .returned (.agg #[.int .i64 t.kind, .slice p t.args.length c]) ∧ TS W' (fun z => w.heap.size + 3 ≤ z) t.args (.slice p t.args.length c) ∧ Two w k1 k2 s1 s2 W' ∧ Below W.heap.size W W'
theorem two_ret {t : Ty} {C : Nat → Prop} {v : Value} {w W : World} {k1 k2 : Int} {s1 s2 : Value} (h : TT w C t v) (hI : Two w k1 k2 s1 s2 W) (hn : nodesS t.args ≤ 1048576) :
    Calls Try.prog 31 #[v] W (TwoRet t w k1 k2 s1 s2 W) := by
  refine (copyT_any (h.keep hI.below) hn).mono ?_
  rintro e W' ⟨v', rfl, ⟨s, rfl, hs⟩, hb⟩
  obtain ⟨p, c, rfl⟩ := hs.form
  exact ⟨p, c, rfl, hs.mono (fun z hz _ => by have := hI.ge; show _ ≤ z; have : W.heap.size ≤ z := hz; omega), hI.keep hb, hb⟩

set_option maxRecDepth 100000 in
set_option maxHeartbeats 2000000 in
theorem l3Fun_any {C C' : Nat → Prop} {t u : Ty} {v x : Value} {w : World} (h : TT w C t v) (h2 : TT w C' u x) (hn : nodesS t.args ≤ 1048576) (hn2 : nodesS u.args ≤ 1048576) :
    Calls Try.prog 55 #[v, x] w (GrowRet (.mk 3 [t, u]) w) := by
  have hA := fun (k1 k2 : Int) (s1 s2 : Value) (W : World) (hI : Two w k1 k2 s1 s2 W) => two_ret h hI hn
  have hB := fun (k1 k2 : Int) (s1 s2 : Value) (W : World) (hI : Two w k1 k2 s1 s2 W) => two_ret h2 hI hn2
  obtain ⟨s, rfl, hS⟩ := h
  obtain ⟨p, c, rfl⟩ := hS.form
  obtain ⟨s2, rfl, hS2⟩ := h2
  obtain ⟨p2, c2, rfl⟩ := hS2.form
  have HA := Lib.hid (hA t.kind u.kind (.slice p t.args.length c) (.slice p2 u.args.length c2))
  have HB := Lib.hid (hB t.kind u.kind (.slice p t.args.length c) (.slice p2 u.args.length c2))
  clear hS hS2 hA hB
  have hK : Two w t.kind u.kind (.slice p t.args.length c) (.slice p2 u.args.length c2) (((w.alloc (.cells #[.int .i64 t.kind, .slice p t.args.length c] 26)).alloc (.cells #[.int .i64 u.kind, .slice p2 u.args.length c2] 26)).alloc (.cells #[.int .i64 0, .slice none 0 0] 26)).drew := by
    obtain ⟨wl, hwl, hsz, hbl, q0, q1, q2⟩ := loop_world3 w #[.int .i64 t.kind, .slice p t.args.length c] #[.int .i64 u.kind, .slice p2 u.args.length c2] #[.int .i64 0, .slice none 0 0] 26 26 26
    rw [hwl]
    have : Two w t.kind u.kind (.slice p t.args.length c) (.slice p2 u.args.length c2) wl := ⟨⟨cell_of_blk q0 0, cell_of_blk q0 1⟩, ⟨cell_of_blk q1 0, cell_of_blk q1 1⟩, q2, hbl, by omega⟩
    exact this.keep (Below.refl _ _).drew
  have HI0 := Lib.hid hK
  clear hK
  go_enter Try.func55, Try.ntmps55
  go_wp2_with fail
  go_region_held3 (fun w' => w'.cell? ⟨w.heap.size, 0, none⟩ = some (.int .i64 t.kind) ∧ w'.cell? ⟨w.heap.size, 1, none⟩ = some (.slice p t.args.length c) ∧ w'.cell? ⟨w.heap.size + 1, 0, none⟩ = some (.int .i64 u.kind) ∧ w'.cell? ⟨w.heap.size + 1, 1, none⟩ = some (.slice p2 u.args.length c2))
    (first
      | (go_keep; done)
      | exact ⟨by simp [*], by simp [*], by simp [*], by simp [*]⟩
      | exact HI1.out.four
      | exact HI2.out.four
      | exact keepS4 (keepS4 (by assumption) (by omega) (by omega) (by omega) (by omega)) (by omega) (by omega) (by omega) (by omega))
    (first
      | (go_at_call_of 31 (Value.agg #[.int .i64 t.kind, .slice p t.args.length c]); (first | refine (HA.out _ HI0.out).mono ?_ | refine (HA.out _ HI2.out).mono ?_); rintro e w1 ⟨p3, c3, rfl, hs1, hI1, hb1⟩; have HI1 := Lib.hid hI1; have HS1 := Lib.hid hs1; have HB1 := Lib.hid hb1; have g12 := al_cell (cell_of_blk hI1.r 0); have g13 := al_cell (cell_of_blk hI1.r 1); have g14 := al_frz hI1.r; clear hs1 hI1 hb1)
      | (go_at_call_of 31 (Value.agg #[.int .i64 u.kind, .slice p2 u.args.length c2]); (first | refine (HB.out _ HI0.out).mono ?_ | refine (HB.out _ HI1.out).mono ?_); rintro e w2 ⟨p4, c4, rfl, hs2, hI2, hb2⟩; have HI2 := Lib.hid hI2; have HS2 := Lib.hid hs2; have HB2 := Lib.hid hb2; have g22 := al_cell (cell_of_blk hI2.r 0); have g23 := al_cell (cell_of_blk hI2.r 1); have g24 := al_frz hI2.r; clear hs2 hI2 hb2))
  go_wp2_with fail
  refine bodyPost_ret (v := .agg #[.int .i64 3, .slice (some ⟨w2.heap.size, 0, none⟩) 2 2]) ?_ rfl ?_
  · rw [results_cell1 rfl]
    go_simp
  · exact two_fin HI2.out (HS1.out.keep HB2.out) HS2.out
end Go.Proofs.Ytjobmgbchpoheaa

