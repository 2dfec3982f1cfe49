/-
  The contracts of the draws' l3Int, l3Code, l3Fun: a new type over copies, its row of the call's own.
-/
import Derived.Test.YtjobmgbchpoheaaSpecCopy
import Derived.Test.YtjobmgbchpoheaaEraseTypeLaw
import Derived.Deep.RegionWith
namespace Go.Proofs.Ytjobmgbchpoheaa
open Go Go.RowKit

/-- A new type whose row is its own, each part in other blocks. -/
def NewG (t : Ty) (base : Nat) (w' : World) (v : Value) : Prop := ∃ (s : Value) (es : Got), v = .agg #[.int .i64 t.kind, s] ∧ es.map (·.1) = t.args ∧ Grow w' base s es
def GrowRet (t : Ty) (w : World) (e : Ending) (w' : World) : Prop := ∃ v, e = .returned v ∧ NewG t w.heap.size w' v ∧ Below w.heap.size w w'
theorem NewG.tt {t : Ty} {base : Nat} {w : World} {v : Value} (h : NewG t base w v) : TT w (fun z => base ≤ z) t v := by
  obtain ⟨s, es, rfl, he, hg⟩ := h
  exact ⟨s, rfl, he ▸ hg.all⟩
theorem Grow.lit {W : World} {base : Nat} {es : Got} {cs : Array Value} {n : Nat} (hn : n = es.length) (hcs : cs = (ecells es).toArray) (hb : base ≤ W.heap.size) (hm : es.length ≤ maxLen) (hts : ∀ e ∈ es, TS W (fun z => base ≤ z) e.1.args e.2) :
    Grow (W.alloc (.cells cs 26)) base (.slice (some ⟨W.heap.size, 0, none⟩) n n) es := by
  subst hn hcs
  refine ⟨⟨by rw [ecells_length], Or.inr ⟨W.heap.size, es.length, (ecells es).toArray, rfl, hb, blk_new W _, Nat.le_refl _, hm, by simp [ecells_length], by simp [← ecells_length]⟩⟩, fun e he => ?_⟩
  exact ((hts e he).mono (C' := fun z => base ≤ z ∧ z < W.heap.size) (fun b h1 h2 => ⟨h1, h2⟩) |>.keep ((Below.refl _ _).alloc (Nat.le_refl _) _)).mono (fun b hb _ => ⟨hb.1, fun e => by simp [Value.ownBlock] at e; omega⟩)

theorem Grow.base {w : World} {a b : Nat} {v : Value} {st : Got} (h : Grow w b v st) (hab : a ≤ b) : Grow w a v st := by
  refine ⟨⟨h.own.1, ?_⟩, fun e he => (h.ts e he).mono (fun z hz _ => ⟨Nat.le_trans hab hz.1, hz.2⟩)⟩
  rcases h.own.2 with h0 | ⟨g, cap, cur, rfl, hg, r⟩
  · exact Or.inl h0
  · exact Or.inr ⟨g, cap, cur, rfl, Nat.le_trans hab hg, r⟩
theorem NewG.base {t : Ty} {a b : Nat} {w : World} {v : Value} (h : NewG t b w v) (hab : a ≤ b) : NewG t a w v := by
  obtain ⟨s, es, h1, h2, h3⟩ := h
  exact ⟨s, es, h1, h2, h3.base hab⟩
theorem al_cell {w : World} {b i : Nat} {v : Value} (h : w.cell? ⟨b, i, none⟩ = some v) (o : Obj) : (w.alloc o).cell? ⟨b, i, none⟩ = some v :=
  (((Below.refl w.heap.size w).alloc (Nat.le_refl _) o).cell (World.block_lt_of_cell? w _ h)).trans h
theorem al_blk {w : World} {b : Nat} {x : Obj} (h : w.heap[b]? = some x) (o : Obj) : (w.alloc o).heap[b]? = some x :=
  (Below.heap_alloc _ _ _ (Array.getElem?_eq_some_iff.1 h).1).trans h
theorem al_frz {w : World} {b : Nat} {cs : Array Value} {t : TypeId} (h : w.heap[b]? = some (.cells cs t (0, 0))) (o : Obj) (i : Nat) : (w.alloc o).frozen? ⟨b, i, none⟩ = false := unfrozen_of_blk (al_blk h o) i

theorem copyT_any {C : Nat → Prop} {t : Ty} {v : Value} {w : World} (h : TT w C t v) (hn : nodesS t.args ≤ 1048576) : Calls Try.prog 31 #[v] w (NewR t w) := by
  obtain ⟨s, rfl, h⟩ := h
  have := copySp_any h w t.kind (Stays.refl _ _) hn
  rwa [← Ty.eta t] at this

set_option maxRecDepth 100000 in
set_option maxHeartbeats 1000000 in
theorem l3Int_any (w : World) : Calls Try.prog 53 #[] w fun e w' => e = .returned (.agg #[.int .i64 1, .slice none 0 0]) ∧ Below w.heap.size w w' := by
  have HB := Lib.hid ((Below.refl _ w).alloc (Nat.le_refl _) (.cells #[.int .i64 1, .slice none 0 0] 26))
  go_enter Try.func53, Try.ntmps53
  go_wp2_with fail
  refine bodyPost_ret (v := .agg #[.int .i64 1, .slice none 0 0]) ?_ rfl ?_
  · rw [results_cell1 rfl]
    go_simp
  · exact ⟨rfl, HB.out⟩

set_option maxRecDepth 100000 in
set_option maxHeartbeats 1000000 in
theorem l3Code_any {C : Nat → Prop} {t : Ty} {v : Value} {w : World} (h : TT w C t v) (hn : nodesS t.args ≤ 1048576) : Calls Try.prog 54 #[v] w (GrowRet (.mk 4 [t]) w) := by
  have HT := Lib.hid (fun w' (hb : Below w.heap.size w w') => h.keep hb)
  obtain ⟨s, rfl, hS⟩ := h
  obtain ⟨p, c, rfl⟩ := hS.form
  clear hS
  have HB0 := Lib.hid (((Below.refl _ w).alloc (Nat.le_refl _) (.cells #[.int .i64 t.kind, .slice p t.args.length c] 26)).alloc (by simp) (.cells #[.int .i64 0, .slice none 0 0] 26))
  obtain ⟨wl, hwl⟩ : ∃ wl, (w.alloc (.cells #[.int .i64 t.kind, .slice p t.args.length c] 26)).alloc (.cells #[.int .i64 0, .slice none 0 0] 26) = wl := ⟨_, rfl⟩
  have hwl1 : wl.heap[w.heap.size + 1]? = some (.cells #[.int .i64 0, .slice none 0 0] 26 (0, 0)) := by
    rw [← hwl]
    have := blk_new (w.alloc (.cells #[.int .i64 t.kind, .slice p t.args.length c] 26)) (.cells #[.int .i64 0, .slice none 0 0] 26)
    rwa [World.size_alloc] at this
  have hwls : wl.heap.size = w.heap.size + 2 := by rw [← hwl]; simp
  have HWL := Lib.hid hwl
  have HWL1 := Lib.hid hwl1
  have HC := Lib.hid (copyT_any (HT.out _ HB0.out) hn)
  rw [hwl] at HB0
  clear hwl hwl1
  go_enter Try.func54, Try.ntmps54
  go_wp2_with fail
  refine HC.out.mono ?_
  rintro e w1 ⟨v1, rfl, ⟨s1, rfl, hs1⟩, hb1⟩
  rw [HWL.out] at hb1 hs1
  obtain ⟨p1, c1, rfl⟩ := hs1.form
  have r1 := (hb1.block _ (Array.getElem?_eq_some_iff.1 HWL1.out).1).trans HWL1.out
  have g0 : w1.cell? ⟨w.heap.size + 1, 0, none⟩ = some (.int .i64 0) := cell_of_blk r1 0
  have g1 : w1.cell? ⟨w.heap.size + 1, 1, none⟩ = some (.slice none 0 0) := cell_of_blk r1 1
  have g2 := al_cell g0
  have g3 := al_cell g1
  have gz := al_frz r1
  have HS1 := Lib.hid hs1
  have HB1 := Lib.hid (HB0.out.trans (hb1.mono HB0.out.size))
  have HSZ := Lib.hid (hwls ▸ hb1.size : w.heap.size + 2 ≤ w1.heap.size)
  clear hb1 hs1 r1 g0 g1
  go_wp2_with fail
  refine bodyPost_ret (v := .agg #[.int .i64 4, .slice (some ⟨w1.heap.size, 0, none⟩) 1 1]) ?_ rfl ?_
  · rw [results_cell1 rfl]
    go_simp
  · have hge : w.heap.size + 2 ≤ w1.heap.size := by have := HSZ.out; omega
    have hg : Grow _ (w.heap.size + 2) (.slice (some ⟨w1.heap.size, 0, none⟩) 1 1) [(t, .slice p1 t.args.length c1)] := Grow.lit (W := w1) (cs := #[.int .i64 t.kind, .slice p1 t.args.length c1]) (n := 1) rfl rfl hge (by simp [maxLen]) (fun e he => by
      rw [List.mem_singleton] at he
      subst he
      exact HS1.out.mono (fun z hz _ => by show _ ≤ z; have : wl.heap.size ≤ z := hz; omega))
    refine ⟨_, rfl, ⟨_, [(t, .slice p1 t.args.length c1)], rfl, rfl, ((hg.set (w.heap.size + 1) 0 _ (by omega)).set (w.heap.size + 1) 1 _ (by omega)).base (by omega)⟩, ?_⟩
    exact ((HB1.out.alloc HB1.out.size _).setCell (p := ⟨w.heap.size + 1, 0, none⟩) (by show w.heap.size ≤ w.heap.size + 1; omega) _).setCell (p := ⟨w.heap.size + 1, 1, none⟩) (by show w.heap.size ≤ w.heap.size + 1; omega) _

/-- What holds while the two copies are made: the boxes, the result's cell as it was. -/
structure Two (w : World) (k1 k2 : Int) (s1 s2 : Value) (W : World) : Prop where
  b1 : Bx W w.heap.size k1 s1
  b2 : Bx W (w.heap.size + 1) k2 s2
  r : W.heap[w.heap.size + 1 + 1]? = some (.cells #[.int .i64 0, .slice none 0 0] 26 (0, 0))
  below : Below w.heap.size w W
  ge : w.heap.size + 3 ≤ W.heap.size
theorem Two.keep {w : World} {k1 k2 : Int} {s1 s2 : Value} {W W' : World} (h : Two w k1 k2 s1 s2 W) (hb : Below W.heap.size W W') : Two w k1 k2 s1 s2 W' :=
  ⟨h.b1.keep hb, h.b2.keep hb, (hb.block _ (Array.getElem?_eq_some_iff.1 h.r).1).trans h.r, h.below.trans (hb.mono h.below.size), Nat.le_trans h.ge hb.size⟩
theorem two_fin {w W : World} {k1 k2 : Int} {p1 p2 : Value} {t u : Ty} {s1 s2 : Value} (h : Two w k1 k2 p1 p2 W) (h1 : TS W (fun z => w.heap.size + 3 ≤ z) t.args s1) (h2 : TS W (fun z => w.heap.size + 3 ≤ z) u.args s2) :
    GrowRet (.mk 3 [t, u]) w (.returned (.agg #[.int .i64 3, .slice (some ⟨W.heap.size, 0, none⟩) 2 2])) (((W.alloc (.cells #[.int .i64 t.kind, s1, .int .i64 u.kind, s2] 26)).setCell ⟨w.heap.size + 1 + 1, 0, none⟩ (.int .i64 3)).setCell ⟨w.heap.size + 1 + 1, 1, none⟩ (.slice (some ⟨W.heap.size, 0, none⟩) 2 2)) := by
  have hg : Grow _ (w.heap.size + 3) (.slice (some ⟨W.heap.size, 0, none⟩) 2 2) [(t, s1), (u, s2)] := Grow.lit (W := W) (cs := #[.int .i64 t.kind, s1, .int .i64 u.kind, s2]) (n := 2) rfl rfl h.ge (by simp [maxLen]) (fun e he => by
    rcases List.mem_cons.1 he with rfl | he
    · exact h1
    · rw [List.mem_singleton] at he
      subst he
      exact h2)
  refine ⟨_, rfl, ⟨_, [(t, s1), (u, s2)], rfl, rfl, ((hg.set (w.heap.size + 1 + 1) 0 _ (by omega)).set (w.heap.size + 1 + 1) 1 _ (by omega)).base (by omega)⟩, ?_⟩
  exact ((h.below.alloc h.below.size _).setCell (p := ⟨w.heap.size + 1 + 1, 0, none⟩) (by show w.heap.size ≤ w.heap.size + 1 + 1; omega) _).setCell (p := ⟨w.heap.size + 1 + 1, 1, none⟩) (by show w.heap.size ≤ w.heap.size + 1 + 1; omega) _

end Go.Proofs.Ytjobmgbchpoheaa

