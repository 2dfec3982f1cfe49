/-
  The contract of the draw of two types.
-/
import Derived.Test.YtjobmgbchpoheaaDrawTypes
namespace Go.Proofs.Ytjobmgbchpoheaa
open Go Go.RowKit

theorem results_cell2 {fn : Func} {p q : Tmp} {ty ty' : TypeId} (h : fn.results = #[.cell p ty, .cell q ty']) (tmps : Array Value) (P : Program) (w : World) :
    (results fn tmps).run P w = ((asAddr (tmps.getD p undef)).run P w).andThen fun a w₁ => ((loadVar ty a).run P w₁).andThen fun v w₂ => ((asAddr (tmps.getD q undef)).run P w₂).andThen fun a' w₃ => ((loadVar ty' a').run P w₃).andThen fun v' w₄ => .ok (.tuple #[v, v']) w₄ := by
  simp only [results, h]
  simp [Sem.run_bind, Result.andThen]

/-- While the second type is drawn: the two results' cells as they were, the box bx that holds the first, the cursor. -/
structure Tws (w : World) (bx : Nat) (W : World) (t : Ty) (s : Value) : Prop where
  r0 : W.heap[w.heap.size]? = some (.cells #[.int .i64 0, .slice none 0 0] 26 (0, 0))
  r1 : W.heap[w.heap.size + 1]? = some (.cells #[.int .i64 0, .slice none 0 0] 26 (0, 0))
  box : W.heap[bx]? = some (.cells #[.int .i64 t.kind, s] 26 (0, 0))
  ts : TS W (fun z => w.heap.size + 3 ≤ z) t.args s
  cur : Cur W (w.heap.size + 2)
  below : Below w.heap.size w W
  lt : w.heap.size + 3 ≤ bx
theorem Tws.bxlt {w W : World} {bx : Nat} {t : Ty} {s : Value} (h : Tws w bx W t s) : bx < W.heap.size := (Array.getElem?_eq_some_iff.1 h.box).1
theorem Tws.step {w W W' : World} {bx : Nat} {t : Ty} {s : Value} (h : Tws w bx W t s) (hc : Cur W' (w.heap.size + 2)) (hg : W.grownBy W' (some (w.heap.size + 2))) : Tws w bx W' t s := by
  have hl := h.lt
  have hx := h.bxlt
  have key : ∀ k, k < W.heap.size → k ≠ w.heap.size + 2 → W'.heap[k]? = W.heap[k]? := fun k hk hne => hg.block k hk (fun e => hne (Option.some.inj e))
  exact ⟨(key _ (by omega) (by omega)).trans h.r0, (key _ (by omega) (by omega)).trans h.r1, (key _ hx (by omega)).trans h.box, h.ts.stays ⟨hg.size, fun z hz hl => key z hl (by omega)⟩, hc, h.below.grown hg h.below.size (fun k hk => by cases hk; omega), hl⟩
theorem Tws.keep {w W W' : World} {bx : Nat} {t : Ty} {s : Value} (h : Tws w bx W t s) (hb : Below W.heap.size W W') : Tws w bx W' t s := by
  have hl := h.lt
  have hx := h.bxlt
  exact ⟨(hb.block _ (by omega)).trans h.r0, (hb.block _ (by omega)).trans h.r1, (hb.block _ hx).trans h.box, h.ts.keep hb, h.cur.below hb, h.below.trans (hb.mono h.below.size), hl⟩
theorem Tws.tt {w W : World} {bx : Nat} {t : Ty} {s : Value} (h : Tws w bx W t s) : TT W (fun z => w.heap.size + 3 ≤ z) t (.agg #[.int .i64 t.kind, s]) := ⟨s, rfl, h.ts⟩
theorem Tws.facts {w W : World} {bx : Nat} {t : Ty} {s : Value} (h : Tws w bx W t s) :
    (W.cell? ⟨bx, 0, none⟩ = some (.int .i64 t.kind) ∧ W.cell? ⟨bx, 1, none⟩ = some s) ∧
    (W.cell? ⟨w.heap.size, 0, none⟩ = some (.int .i64 0) ∧ W.cell? ⟨w.heap.size, 1, none⟩ = some (.slice none 0 0) ∧ ∀ i, W.frozen? ⟨w.heap.size, i, none⟩ = false) ∧
    W.cell? ⟨w.heap.size + 1, 0, none⟩ = some (.int .i64 0) ∧ W.cell? ⟨w.heap.size + 1, 1, none⟩ = some (.slice none 0 0) ∧ ∀ i, W.frozen? ⟨w.heap.size + 1, i, none⟩ = false :=
  ⟨⟨cell_of_blk h.box 0, cell_of_blk h.box 1⟩, ⟨cell_of_blk h.r0 0, cell_of_blk h.r0 1, unfrozen_of_blk h.r0⟩, cell_of_blk h.r1 0, cell_of_blk h.r1 1, unfrozen_of_blk h.r1⟩
theorem tws_fin {w W : World} {bx : Nat} {t u : Ty} {s s' : Value} (h : Tws w bx W t s) (hu : TS W (fun z => w.heap.size + 3 ≤ z) u.args s') (hn : t.nodes ≤ 200) (hn2 : u.nodes ≤ 200) :
    DTy2 w (.returned (.tuple #[.agg #[.int .i64 t.kind, s], .agg #[.int .i64 u.kind, s']])) ((((W.setCell ⟨w.heap.size, 0, none⟩ (.int .i64 t.kind)).setCell ⟨w.heap.size, 1, none⟩ s).setCell ⟨w.heap.size + 1, 0, none⟩ (.int .i64 u.kind)).setCell ⟨w.heap.size + 1, 1, none⟩ s') := by
  have hst : Stays (fun z => w.heap.size + 3 ≤ z) W ((((W.setCell ⟨w.heap.size, 0, none⟩ (.int .i64 t.kind)).setCell ⟨w.heap.size, 1, none⟩ s).setCell ⟨w.heap.size + 1, 0, none⟩ (.int .i64 u.kind)).setCell ⟨w.heap.size + 1, 1, none⟩ s') :=
    (((setCell_stays _ _ _ _ _ (by omega)).trans (setCell_stays _ _ _ _ _ (by omega))).trans (setCell_stays _ _ _ _ _ (by omega))).trans (setCell_stays _ _ _ _ _ (by omega))
  refine ⟨_, _, t, u, rfl, hn, hn2, ⟨s, rfl, (h.ts.stays hst).mono (fun z hz _ => by omega)⟩, ⟨s', rfl, (hu.stays hst).mono (fun z hz _ => by omega)⟩, ?_⟩
  exact (((h.below.setCell (p := ⟨w.heap.size, 0, none⟩) (Nat.le_refl _) _).setCell (p := ⟨w.heap.size, 1, none⟩) (Nat.le_refl _) _).setCell (p := ⟨w.heap.size + 1, 0, none⟩) (Nat.le_succ _) _).setCell (p := ⟨w.heap.size + 1, 1, none⟩) (Nat.le_succ _) _
theorem two_start (w : World) : ∃ wl, (w.alloc (.cells #[.int .i64 0, .slice none 0 0] 26)).alloc (.cells #[.int .i64 0, .slice none 0 0] 26) = wl ∧ wl.heap.size = w.heap.size + 2 ∧ Below w.heap.size w wl ∧
    wl.heap[w.heap.size]? = some (.cells #[.int .i64 0, .slice none 0 0] 26 (0, 0)) ∧ wl.heap[w.heap.size + 1]? = some (.cells #[.int .i64 0, .slice none 0 0] 26 (0, 0)) := by
  refine ⟨_, rfl, by simp, (alloc_below w _).trans ((alloc_below _ _).mono (by simp)), al_blk (blk_new w _) _, ?_⟩
  have := blk_new (w.alloc (.cells #[.int .i64 0, .slice none 0 0] 26)) (.cells #[.int .i64 0, .slice none 0 0] 26)
  rwa [World.size_alloc] at this

set_option maxRecDepth 100000 in
set_option maxHeartbeats 1000000 in
theorem drawEqual_any (v : Value) (w : World) (hv : Bytes w v) (hlen : sliceLen v ≤ 1048576) : Calls Try.prog 9 #[v] w (DTy2 w) := by
  obtain ⟨wl, hwl, hls, hlb, hl0, hl1⟩ := two_start w
  have HN := Lib.hid (new_any v wl (hv.below hlb) hlen)
  rw [← hwl] at HN
  have HWL := Lib.hid (And.intro hwl (And.intro hls (And.intro hlb (And.intro hl0 hl1))))
  clear hv hlen hwl hls hlb hl0 hl1
  go_enter Try.func9, Try.ntmps9
  go_wp2_with fail
  refine HN.out.mono ?_
  rintro e w1 ⟨rfl, hc1, hb1, hs1⟩
  obtain ⟨hwl, hls, hlb, hl0, hl1⟩ := HWL.out
  rw [hwl] at hc1 hb1 hs1 ⊢
  rw [hls] at hc1 hb1 hs1 ⊢
  have q0 := (hb1.block _ (by omega)).trans hl0
  have q1 := (hb1.block _ (by omega)).trans hl1
  have HQ := Lib.hid (And.intro q0 (And.intro q1 (hlb.trans (hb1.mono (by omega)))))
  have HC1 := Lib.hid hc1
  have HS1 := Lib.hid hs1
  clear hc1 hb1 hs1 hwl hls hlb hl0 hl1 q0 q1 HN HWL
  go_wp2_with fail
  refine (bent_any _ w1 HC1.out).mono ?_
  rintro e w2 ⟨v2, t, rfl, hn, hT, hc2, hg2⟩
  obtain ⟨s2, rfl, hS⟩ := hT
  obtain ⟨p, c, rfl⟩ := hS.form
  have ht2 : Tws w w2.heap.size (w2.alloc (.cells #[.int .i64 t.kind, .slice p t.args.length c] 26)) t (.slice p t.args.length c) := by
    obtain ⟨q0, q1, hlb⟩ := HQ.out
    have hs1 := HS1.out
    have hsz := hg2.size
    have key : ∀ k, k < w1.heap.size → k ≠ w.heap.size + 2 → w2.heap[k]? = w1.heap[k]? := fun k hk hne => hg2.block k hk (fun e => hne (Option.some.inj e))
    refine ⟨al_blk ((key _ (by omega) (by omega)).trans q0) _, al_blk ((key _ (by omega) (by omega)).trans q1) _, blk_new w2 _, (hS.mono (fun z hz _ => by have : w1.heap.size ≤ z := hz; show _ ≤ z; omega)).keep (alloc_below w2 _), cur_alloc hc2 _, ?_, by omega⟩
    exact (hlb.grown hg2 (by omega) (fun k hk => by cases hk; omega)).alloc (by omega) _
  have HT2 := Lib.hid ht2
  clear hS hc2 hg2 ht2
  go_wp2_with fail
  refine (once_any _ 2 _ (by decide) (by decide) HT2.out.cur).mono ?_
  rintro e w3 ⟨x, rfl, hc3, hg3⟩
  have ht3 := HT2.out.step hc3 hg3
  have HT3 := Lib.hid ht3
  obtain ⟨⟨f0, f1⟩, ⟨g0, g1, gz⟩, h0, h1, hz⟩ := ht3.facts
  clear hc3 hg3 ht3
  cases x
  · have HT4 := Lib.hid (HT3.out.keep (Below.refl _ w3).drew)
    go_wp2_with fail
    go_region_held3 (fun w' => w'.cell? ⟨w2.heap.size, 0, none⟩ = some (.int .i64 t.kind) ∧ w'.cell? ⟨w2.heap.size, 1, none⟩ = some (.slice p t.args.length c))
      (first
        | (go_keep; done)
        | exact ⟨by simp [*], by simp [*]⟩
        | exact HS4.out
        | exact keepS2 (keepS2 (by assumption) (by have := HT3.out.lt; omega) (by have := HT3.out.lt; omega)) (by have := HT3.out.lt; omega) (by have := HT3.out.lt; omega))
      (first
        | (go_at_call 25; refine (bent_any _ _ HT4.out.cur).mono ?_; rintro e w4 ⟨v4, u, rfl, hn2, ⟨s4, rfl, hs4⟩, hc4, hg4⟩; obtain ⟨p4, c4, rfl⟩ := hs4.form; have ht5 := HT4.out.step hc4 hg4; have HT5 := Lib.hid ht5; have HS4 := Lib.hid ht5.facts.1; have HU := Lib.hid hs4; obtain ⟨_, ⟨g0, g1, gz⟩, h0, h1, hz⟩ := ht5.facts; clear ht5 hc4 hg4 hs4))
    go_wp2_with fail
    refine bodyPost_ret (v := .tuple #[.agg #[.int .i64 t.kind, .slice p t.args.length c], .agg #[.int .i64 u.kind, .slice p4 u.args.length c4]]) ?_ rfl ?_
    · rw [results_cell2 rfl]
      go_simp
    · exact tws_fin HT5.out (HU.out.mono (fun z hz _ => by have : w3.heap.size ≤ z := hz; have := HT3.out.lt; have := HT3.out.bxlt; show _ ≤ z; omega)) hn hn2
  · have HT4 := Lib.hid (HT3.out.keep (Below.refl _ w3).drew)
    go_wp2_with fail
    go_region_held3 (fun w' => w'.cell? ⟨w2.heap.size, 0, none⟩ = some (.int .i64 t.kind) ∧ w'.cell? ⟨w2.heap.size, 1, none⟩ = some (.slice p t.args.length c))
      (first
        | (go_keep; done)
        | exact ⟨by simp [*], by simp [*]⟩
        | exact HS4.out
        | exact keepS2 (keepS2 (by assumption) (by have := HT3.out.lt; omega) (by have := HT3.out.lt; omega)) (by have := HT3.out.lt; omega) (by have := HT3.out.lt; omega))
      (first
        | (go_at_call 31; refine (copyT_any HT4.out.tt (by have := t.nodes_eq; omega)).mono ?_; rintro e w4 ⟨v4, rfl, ⟨s4, rfl, hs4⟩, hb4⟩; obtain ⟨p4, c4, rfl⟩ := hs4.form; have ht5 := HT4.out.keep hb4; have HT5 := Lib.hid ht5; have HS4 := Lib.hid ht5.facts.1; have HU := Lib.hid hs4; obtain ⟨_, ⟨g0, g1, gz⟩, h0, h1, hz⟩ := ht5.facts; clear ht5 hb4 hs4))
    go_wp2_with fail
    refine bodyPost_ret (v := .tuple #[.agg #[.int .i64 t.kind, .slice p t.args.length c], .agg #[.int .i64 t.kind, .slice p4 t.args.length c4]]) ?_ rfl ?_
    · rw [results_cell2 rfl]
      go_simp
    · exact tws_fin HT5.out (HU.out.mono (fun z hz _ => by have : w3.heap.size ≤ z := hz; have := HT3.out.lt; have := HT3.out.bxlt; show _ ≤ z; omega)) hn hn
end Go.Proofs.Ytjobmgbchpoheaa

