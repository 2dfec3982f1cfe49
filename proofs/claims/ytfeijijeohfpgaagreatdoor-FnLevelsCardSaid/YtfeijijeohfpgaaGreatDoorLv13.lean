/-
  Several texts of the proof in one (each says below what it holds): Gclo Gdlv LvP0 TermAt RangeD PartsP.
-/
import Derived.Test.YtfeijijeohfpgaaGreatDoorLv7
import Derived.Test.YtfeijijeohfpgaaGreatDoorLv12
import Derived.Test.YtfeijijeohfpgaaGreatDoorLv3
import Derived.Test.YtfeijijeohfpgaaGreatDoorLv10
import Derived.Test.YtfeijijeohfpgaaGreatDoorLv11
import Derived.Test.YtfeijijeohfpgaaGreatDoorLv1
import Derived.Test.YtfeijijeohfpgaaGreatDoorLv2
import Derived.Deep.RegionHeld3
import Derived.Lib.SmallJoins
set_option linter.unusedVariables false
set_option linter.unusedSimpArgs false
namespace Go.Proofs.YtfeijijeohfpgaaGreatDoor
open Go Go.RowKit
structure Drawn (w : World) (b r : Nat) (wi : World) (bx : Nat) (tq : Ty) (pq : Option Addr) (cq : Nat) (W : World) : Prop where
  slot : Slot w b r W
  box : W.heap[bx]? = some (.cells #[.int .i64 tq.kind, .slice pq tq.args.length cq] 26 (0, 0))
  ts : TS W (fun z => wi.heap.size ≤ z ∧ z ≠ bx) tq.args (.slice pq tq.args.length cq)
theorem Slot.fill {w W wi : World} {b r bx : Nat} {tq : Ty} {pq : Option Addr} {cq : Nat} (h : Slot w b r W) (hx : W.heap[bx]? = some (.cells #[.int .i64 0, .slice none 0 0] 26 (0, 0))) (ht : TS W (fun z => wi.heap.size ≤ z ∧ z ≠ bx) tq.args (.slice pq tq.args.length cq)) (hb : w.heap.size ≤ bx) :
    Drawn w b r wi bx tq pq cq ((W.setCell ⟨bx, 0, none⟩ (.int .i64 tq.kind)).setCell ⟨bx, 1, none⟩ (.slice pq tq.args.length cq)) := by
  have hne : r ≠ bx := fun e => by
    have := h.box
    rw [e, hx] at this
    simp at this
  have hst : ∀ F : Nat → Prop, ¬ F bx → Stays F W ((W.setCell ⟨bx, 0, none⟩ (.int .i64 tq.kind)).setCell ⟨bx, 1, none⟩ (.slice pq tq.args.length cq)) := fun F hF => (setCell_stays _ _ _ _ F hF).trans (setCell_stays _ _ _ _ F hF)
  have hB : Below w.heap.size W ((W.setCell ⟨bx, 0, none⟩ (.int .i64 tq.kind)).setCell ⟨bx, 1, none⟩ (.slice pq tq.args.length cq)) := set2_below (Below.refl _ _) hb
  refine ⟨⟨h.cur.belowAt h.bw hB, grown_below h.grown (Nat.le_refl _) hB, ((hst (fun z => z = r) (fun e => hne e.symm)).2 r rfl h.lt).trans h.box, h.lo, h.bw⟩, ?_, ht.stays (hst _ (fun e => e.2 rfl))⟩
  rw [Go.Joins.block_setCell (Go.Joins.block_setCell hx _) _]
  rfl
structure LiS (w wi W : World) (b : Nat) (bx row : Option Nat) (X : List (List Ty × Value)) (cs : Array Value) : Prop where
  slot : Slot w b w.heap.size W
  grown : wi.grownBy W (some b)
  ts : ∀ e ∈ X, TS W (fun z => wi.heap.size ≤ z ∧ bx ≠ some z) e.1 e.2
  box : ∀ z, bx = some z → wi.heap.size ≤ z ∧ W.heap[z]? = some (.cells #[.int .i64 0, .slice none 0 0] 26 (0, 0))
  lit : ∀ z, row = some z → wi.heap.size ≤ z ∧ W.heap[z]? = some (.cells cs 26 (0, 0))
  ne : ∀ x z, bx = some x → row = some z → x ≠ z
section
variable {w wi W W' : World} {b : Nat} {bx row : Option Nat} {X : List (List Ty × Value)} {cs : Array Value}
theorem LiS.start (h : Slot w b w.heap.size wi) : LiS w wi wi.drew b none none [] cs :=
  ⟨h.below (Below.refl _ wi).drew, grown_drewB (grownB_refl wi _), (fun _ he => by simp at he), (fun _ hz => by cases hz), (fun _ hz => by cases hz), (fun _ _ hz => by cases hz)⟩
theorem LiS.below (h : LiS w wi W b bx row X cs) (hb : Below W.heap.size W W') : LiS w wi W' b bx row X cs :=
  ⟨h.slot.below hb, grown_below h.grown h.grown.size hb, fun e he => (h.ts e he).stays (.of_below hb), fun z hz => ⟨(h.box z hz).1, (hb.block _ (Array.getElem?_eq_some_iff.1 (h.box z hz).2).1).trans (h.box z hz).2⟩,
    fun z hz => ⟨(h.lit z hz).1, (hb.block _ (Array.getElem?_eq_some_iff.1 (h.lit z hz).2).1).trans (h.lit z hz).2⟩, h.ne⟩
theorem LiS.draw (h : LiS w wi W b bx row X cs) (hbw : b < wi.heap.size) (hc : Cur W' b) (hg : W.grownBy W' (some b)) : LiS w wi W' b bx row X cs :=
  ⟨h.slot.step hc hg, grownBy_trans h.grown hg, fun e he => (h.ts e he).stays (grown_stays hg (fun z hz => by have := hz.1; omega)), fun z hz => ⟨(h.box z hz).1, (hg.block _ (Array.getElem?_eq_some_iff.1 (h.box z hz).2).1 (fun e => by have := Option.some.inj e; have := (h.box z hz).1; omega)).trans (h.box z hz).2⟩,
    fun z hz => ⟨(h.lit z hz).1, (hg.block _ (Array.getElem?_eq_some_iff.1 (h.lit z hz).2).1 (fun e => by have := Option.some.inj e; have := (h.lit z hz).1; omega)).trans (h.lit z hz).2⟩, h.ne⟩
theorem LiS.add {W0 : World} {ts : List Ty} {v : Value} (h : LiS w wi W b bx row X cs) (h0 : LiS w wi W0 b bx row X cs) (hs : TS W (fun z => W0.heap.size ≤ z) ts v) : LiS w wi W b bx row ((ts, v) :: X) cs :=
  ⟨h.slot, h.grown, fun e he => by
    rcases List.mem_cons.1 he with rfl | he
    · refine hs.mono (fun z hz _ => ⟨Nat.le_trans h0.grown.size hz, fun e => ?_⟩)
      have := (Array.getElem?_eq_some_iff.1 (h0.box z e).2).1
      have hz' : W0.heap.size ≤ z := hz
      omega
    · exact h.ts e he, h.box, h.lit, h.ne⟩
theorem LiS.mkBox (h : LiS w wi W b none row X cs) (hw : W.alloc (.cells #[.int .i64 0, .slice none 0 0] 26) = W') : LiS w wi W' b (some W.heap.size) row X cs := by
  have hb : Below W.heap.size W W' := hw ▸ al_below W _
  have hx : W'.heap[W.heap.size]? = some (.cells #[.int .i64 0, .slice none 0 0] 26 (0, 0)) := hw ▸ blk_new W _
  have h2 := h.below hb
  refine ⟨h2.slot, h2.grown, fun e he => ((h.ts e he).mono (C' := fun z => wi.heap.size ≤ z ∧ some W.heap.size ≠ some z) (fun z hz hl => ⟨hz.1, fun e => by have := Option.some.inj e; omega⟩)).stays (.of_below hb), fun z hz => ?_, h2.lit, fun x z hx hz => ?_⟩
  · obtain rfl := Option.some.inj hz
    exact ⟨h.grown.size, hx⟩
  · obtain rfl := Option.some.inj hx
    have := (Array.getElem?_eq_some_iff.1 (h.lit z hz).2).1
    omega
theorem LiS.mkLit {cs' : Array Value} (h : LiS w wi W b bx none X cs) (hw : W.alloc (.cells cs' 26) = W') : LiS w wi W' b bx (some W.heap.size) X cs' := by
  have hb : Below W.heap.size W W' := hw ▸ al_below W _
  have hx : W'.heap[W.heap.size]? = some (.cells cs' 26 (0, 0)) := hw ▸ blk_new W _
  have h2 := h.below hb
  refine ⟨h2.slot, h2.grown, h2.ts, h2.box, fun z hz => ?_, fun x z hx hz => ?_⟩
  · obtain rfl := Option.some.inj hz
    exact ⟨h.grown.size, hx⟩
  · obtain rfl := Option.some.inj hz
    have := (Array.getElem?_eq_some_iff.1 (h.box x hx).2).1
    omega
theorem LiS.only {ts : List Ty} {v : Value} (h : LiS w wi W b bx row X cs) (hs : TS W (fun z => wi.heap.size ≤ z ∧ bx ≠ some z) ts v) : LiS w wi W b bx row [(ts, v)] cs :=
  ⟨h.slot, h.grown, fun e he => by rw [List.mem_singleton.1 he]; exact hs, h.box, h.lit, h.ne⟩
theorem LiS.q {r i : Nat} {v : Value} (h : LiS w wi W b bx (some r) X cs) (hq : cs[i]? = some v) : W.cell? ⟨r, i, none⟩ = some v := (cell_of_blk (h.lit r rfl).2 i).trans hq
theorem LiS.litf {x : Nat} (h : LiS w wi W b bx (some x) X cs) : wi.heap.size ≤ x := (h.lit x rfl).1
theorem LiS.boxf {x : Nat} (h : LiS w wi W b (some x) row X cs) : W.cell? ⟨x, 0, none⟩ = some (.int .i64 0) ∧ W.cell? ⟨x, 1, none⟩ = some (.slice none 0 0) ∧ ∀ i, W.frozen? ⟨x, i, none⟩ = false :=
  ⟨cell_of_blk (h.box x rfl).2 0, cell_of_blk (h.box x rfl).2 1, unfrozen_of_blk (h.box x rfl).2⟩
theorem LiS.fill {x : Nat} {tq : Ty} {pq : Option Addr} {cq : Nat} (h : LiS w wi W b (some x) row [(tq.args, .slice pq tq.args.length cq)] cs) (hw : w.heap.size ≤ wi.heap.size) :
    Drawn w b w.heap.size wi x tq pq cq ((W.setCell ⟨x, 0, none⟩ (.int .i64 tq.kind)).setCell ⟨x, 1, none⟩ (.slice pq tq.args.length cq)) :=
  h.slot.fill (h.box x rfl).2 ((h.ts _ (.head _)).mono (fun z hz _ => ⟨hz.1, fun e => hz.2 (by rw [e])⟩)) (Nat.le_trans hw (h.box x rfl).1)
theorem aft {x c q : Nat} {v u1 u2 : Value} (hc : c ≠ x) (h0 : W.cell? ⟨c, q, none⟩ = some v) : ((W.setCell ⟨x, 0, none⟩ u1).setCell ⟨x, 1, none⟩ u2).cell? ⟨c, q, none⟩ = some v :=
  ((cell_setCell_ne (fun e => hc e.1)).trans (cell_setCell_ne (fun e => hc e.1))).trans h0
end
abbrev litC (p1 p3 p4 p6 p7 : Option Addr) (c1 c3 c4 c6 c7 : Nat) : Array Value := #[.int .i64 1, .slice none 0 0, .int .i64 2, .slice none 0 0, .int .i64 4, .slice p1 1 c1, .int .i64 4, .slice p3 1 c3, .int .i64 3, .slice p4 2 c4, .int .i64 4, .slice p6 1 c6, .int .i64 1, .slice none 0 0, .int .i64 4, .slice p7 1 c7]
set_option maxRecDepth 10000 in
theorem lit_pick {w wi W : World} {b r : Nat} {bx : Option Nat} {p1 p2 p3 p4 p5 p6 p7 : Option Addr} {c1 c2 c3 c4 c5 c6 c7 : Nat} (h : LiS w wi W b bx (some r) [([.mk 1 []], .slice p7 1 c7), ([.mk 4 [.mk 1 []]], .slice p6 1 c6), ([.mk 1 []], .slice p5 1 c5), ([.mk 1 [], .mk 1 []], .slice p4 2 c4), ([.mk 3 [.mk 1 [], .mk 1 []]], .slice p3 1 c3), ([.mk 1 [], .mk 1 []], .slice p2 2 c2), ([.mk 1 []], .slice p1 1 c1)] (litC p1 p3 p4 p6 p7 c1 c3 c4 c6 c7)) {kx : Nat} (hk : kx < 8) : ∃ (tq : Ty) (pq : Option Addr) (cq : Nat),
    (litC p1 p3 p4 p6 p7 c1 c3 c4 c6 c7)[kx * 2]? = some (.int .i64 tq.kind) ∧ (litC p1 p3 p4 p6 p7 c1 c3 c4 c6 c7)[kx * 2 + 1]? = some (.slice pq tq.args.length cq) ∧ TS W (fun z => wi.heap.size ≤ z ∧ bx ≠ some z) tq.args (.slice pq tq.args.length cq) ∧ tq.form = true ∧ tq.nodes ≤ 4 := by
  rcases (show kx = 0 ∨ kx = 1 ∨ kx = 2 ∨ kx = 3 ∨ kx = 4 ∨ kx = 5 ∨ kx = 6 ∨ kx = 7 by omega) with rfl | rfl | rfl | rfl | rfl | rfl | rfl | rfl
  · exact ⟨.mk 1 [], none, 0, rfl, rfl, .nil _ _, rfl, by decide⟩
  · exact ⟨.mk 2 [], none, 0, rfl, rfl, .nil _ _, rfl, by decide⟩
  · exact ⟨.mk 4 [.mk 1 []], p1, c1, rfl, rfl, h.ts ([.mk 1 []], .slice p1 1 c1) (by simp), rfl, by decide⟩
  · exact ⟨.mk 4 [.mk 3 [.mk 1 [], .mk 1 []]], p3, c3, rfl, rfl, h.ts ([.mk 3 [.mk 1 [], .mk 1 []]], .slice p3 1 c3) (by simp), rfl, by decide⟩
  · exact ⟨.mk 3 [.mk 1 [], .mk 1 []], p4, c4, rfl, rfl, h.ts ([.mk 1 [], .mk 1 []], .slice p4 2 c4) (by simp), rfl, by decide⟩
  · exact ⟨.mk 4 [.mk 4 [.mk 1 []]], p6, c6, rfl, rfl, h.ts ([.mk 4 [.mk 1 []]], .slice p6 1 c6) (by simp), rfl, by decide⟩
  · exact ⟨.mk 1 [], none, 0, rfl, rfl, .nil _ _, rfl, by decide⟩
  · exact ⟨.mk 4 [.mk 1 []], p7, c7, rfl, rfl, h.ts ([.mk 1 []], .slice p7 1 c7) (by simp), rfl, by decide⟩
section
variable {P : Program} {ops : Array Oper} {Q : Exit → Act → World → Prop} {md : Region.Mode} {S S' : World → Prop}
theorem wpAnyH_mono (hS : ∀ w, S' w → S w) : ∀ (fuel : Nat) (listed : Array Bool) (a : Act) (w : World), wpAnyH P md ops Q S' fuel listed a w → wpAnyH P md ops Q S fuel listed a w
  | 0, _, _, _, h => h
  | fuel + 1, _, _, _, h => ⟨h.1, fun i hi => wpOp_mono (fun a' w' h' => ⟨hS w' h'.1, wpAnyH_mono hS fuel _ a' w' h'.2⟩) (h.2 i hi)⟩
end
section
variable {P : Program} {ops : Array Oper} {Q : Exit → Act → World → Prop} {md : Region.Mode} {S : World → Prop} {fuel : Nat} {listed : Array Bool} {a : Act} {w : World}
theorem ready1 (i0 : Nat) (o0 : Oper) (hr : Region.ready md ops listed = [i0]) (e0 : ops[i0]? = some o0) (h0 : ∀ K' : Act → World → Prop, Shut (∀ a w, S w → (S w → wpAnyH P md ops Q S fuel (listed.setIfInBounds i0 true) a w) → K' a w) → if Region.wanted o0 (yielded ops a.tmps) = true then Oper.wp P o0 a w K' Q else K' (a.put o0.dst undef) w) : wpAnyH P md ops Q S (fuel + 1) listed a w :=
  wpAnyH_ready hr (by simp) (AllReadyH.cons e0 h0 AllReadyH.nil)
theorem ready2 (i0 i1 : Nat) (o0 o1 : Oper) (hr : Region.ready md ops listed = [i0, i1]) (e0 : ops[i0]? = some o0) (e1 : ops[i1]? = some o1) (h0 : ∀ K' : Act → World → Prop, Shut (∀ a w, S w → (S w → wpAnyH P md ops Q S fuel (listed.setIfInBounds i0 true) a w) → K' a w) → if Region.wanted o0 (yielded ops a.tmps) = true then Oper.wp P o0 a w K' Q else K' (a.put o0.dst undef) w) (h1 : ∀ K' : Act → World → Prop, Shut (∀ a w, S w → (S w → wpAnyH P md ops Q S fuel (listed.setIfInBounds i1 true) a w) → K' a w) → if Region.wanted o1 (yielded ops a.tmps) = true then Oper.wp P o1 a w K' Q else K' (a.put o1.dst undef) w) : wpAnyH P md ops Q S (fuel + 1) listed a w :=
  wpAnyH_ready hr (by simp) (AllReadyH.cons e0 h0 (AllReadyH.cons e1 h1 AllReadyH.nil))
theorem ready3 (i0 i1 i2 : Nat) (o0 o1 o2 : Oper) (hr : Region.ready md ops listed = [i0, i1, i2]) (e0 : ops[i0]? = some o0) (e1 : ops[i1]? = some o1) (e2 : ops[i2]? = some o2) (h0 : ∀ K' : Act → World → Prop, Shut (∀ a w, S w → (S w → wpAnyH P md ops Q S fuel (listed.setIfInBounds i0 true) a w) → K' a w) → if Region.wanted o0 (yielded ops a.tmps) = true then Oper.wp P o0 a w K' Q else K' (a.put o0.dst undef) w) (h1 : ∀ K' : Act → World → Prop, Shut (∀ a w, S w → (S w → wpAnyH P md ops Q S fuel (listed.setIfInBounds i1 true) a w) → K' a w) → if Region.wanted o1 (yielded ops a.tmps) = true then Oper.wp P o1 a w K' Q else K' (a.put o1.dst undef) w) (h2 : ∀ K' : Act → World → Prop, Shut (∀ a w, S w → (S w → wpAnyH P md ops Q S fuel (listed.setIfInBounds i2 true) a w) → K' a w) → if Region.wanted o2 (yielded ops a.tmps) = true then Oper.wp P o2 a w K' Q else K' (a.put o2.dst undef) w) : wpAnyH P md ops Q S (fuel + 1) listed a w :=
  wpAnyH_ready hr (by simp) (AllReadyH.cons e0 h0 (AllReadyH.cons e1 h1 (AllReadyH.cons e2 h2 AllReadyH.nil)))
end
abbrev cop0 : Oper := ({ dst := some 10, op := Op.load 26 (Operand.tmp 3), type := 26, pos := "l09_typing.go:298", after := #[], guard := none } : Oper)
abbrev cop1 : Oper := ({ dst := some 11, op := Op.call { callee := Callee.value (Operand.func 89), args := #[], argTypes := #[] }, type := 26, pos := "l09_typing.go:298", after := #[], guard := none } : Oper)
abbrev cop2 : Oper := ({ dst := some 12, op := Op.load 26 (Operand.tmp 3), type := 26, pos := "l09_typing.go:298", after := #[], guard := none } : Oper)
abbrev cop3 : Oper := ({ dst := some 13, op := Op.call { callee := Callee.value (Operand.func 90), args := #[Operand.tmp 12], argTypes := #[26] }, type := 26, pos := "l09_typing.go:298", after := #[{ on := 2, ground := Ground.data }, { on := 1, ground := Ground.chain }], guard := none } : Oper)
abbrev cop4 : Oper := ({ dst := some 14, op := Op.load 26 (Operand.tmp 3), type := 26, pos := "l09_typing.go:298", after := #[], guard := none } : Oper)
abbrev cop5 : Oper := ({ dst := some 15, op := Op.load 26 (Operand.tmp 3), type := 26, pos := "l09_typing.go:298", after := #[], guard := none } : Oper)
abbrev cop6 : Oper := ({ dst := some 16, op := Op.call { callee := Callee.value (Operand.func 91), args := #[Operand.tmp 14, Operand.tmp 15], argTypes := #[26, 26] }, type := 26, pos := "l09_typing.go:298", after := #[{ on := 4, ground := Ground.data }, { on := 5, ground := Ground.data }, { on := 3, ground := Ground.chain }], guard := none } : Oper)
abbrev cop7 : Oper := ({ dst := some 17, op := Op.call { callee := Callee.value (Operand.func 90), args := #[Operand.tmp 16], argTypes := #[26] }, type := 26, pos := "l09_typing.go:298", after := #[{ on := 6, ground := Ground.data }, { on := 6, ground := Ground.chain }], guard := none } : Oper)
abbrev cop8 : Oper := ({ dst := some 18, op := Op.load 26 (Operand.tmp 3), type := 26, pos := "l09_typing.go:298", after := #[], guard := none } : Oper)
abbrev cop9 : Oper := ({ dst := some 19, op := Op.load 26 (Operand.tmp 3), type := 26, pos := "l09_typing.go:298", after := #[], guard := none } : Oper)
abbrev cop10 : Oper := ({ dst := some 20, op := Op.call { callee := Callee.value (Operand.func 91), args := #[Operand.tmp 18, Operand.tmp 19], argTypes := #[26, 26] }, type := 26, pos := "l09_typing.go:298", after := #[{ on := 8, ground := Ground.data }, { on := 9, ground := Ground.data }, { on := 7, ground := Ground.chain }], guard := none } : Oper)
abbrev cop11 : Oper := ({ dst := some 21, op := Op.load 26 (Operand.tmp 3), type := 26, pos := "l09_typing.go:298", after := #[], guard := none } : Oper)
abbrev cop12 : Oper := ({ dst := some 22, op := Op.call { callee := Callee.value (Operand.func 90), args := #[Operand.tmp 21], argTypes := #[26] }, type := 26, pos := "l09_typing.go:298", after := #[{ on := 11, ground := Ground.data }, { on := 10, ground := Ground.chain }], guard := none } : Oper)
abbrev cop13 : Oper := ({ dst := some 23, op := Op.call { callee := Callee.value (Operand.func 90), args := #[Operand.tmp 22], argTypes := #[26] }, type := 26, pos := "l09_typing.go:298", after := #[{ on := 12, ground := Ground.data }, { on := 12, ground := Ground.chain }], guard := none } : Oper)
abbrev cop14 : Oper := ({ dst := some 24, op := Op.load 26 (Operand.tmp 3), type := 26, pos := "l09_typing.go:298", after := #[], guard := none } : Oper)
abbrev cop15 : Oper := ({ dst := some 25, op := Op.load 26 (Operand.tmp 3), type := 26, pos := "l09_typing.go:298", after := #[], guard := none } : Oper)
abbrev cop16 : Oper := ({ dst := some 26, op := Op.call { callee := Callee.value (Operand.func 90), args := #[Operand.tmp 25], argTypes := #[26] }, type := 26, pos := "l09_typing.go:298", after := #[{ on := 15, ground := Ground.data }, { on := 13, ground := Ground.chain }], guard := none } : Oper)
abbrev cop17 : Oper := ({ dst := some 27, op := Op.buildSlice 24 8 #[(0, Operand.tmp 10), (1, Operand.tmp 11), (2, Operand.tmp 13), (3, Operand.tmp 17), (4, Operand.tmp 20), (5, Operand.tmp 23), (6, Operand.tmp 24), (7, Operand.tmp 26)], type := 24, pos := "l09_typing.go:298", after := #[{ on := 0, ground := Ground.data }, { on := 1, ground := Ground.data }, { on := 3, ground := Ground.data }, { on := 7, ground := Ground.data }, { on := 10, ground := Ground.data }, { on := 13, ground := Ground.data }, { on := 14, ground := Ground.data }, { on := 16, ground := Ground.data }], guard := none } : Oper)
abbrev cop18 : Oper := ({ dst := some 28, op := Op.move (Operand.tmp 0), type := 58, pos := "l09_typing.go:298", after := #[], guard := none } : Oper)
abbrev cop19 : Oper := ({ dst := some 29, op := Op.call { callee := Callee.value (Operand.func 41), args := #[Operand.tmp 28, Operand.const (Value.int IntKind.i64 8)], argTypes := #[58, 3] }, type := 3, pos := "l09_typing.go:298", after := #[{ on := 18, ground := Ground.data }, { on := 16, ground := Ground.chain }], guard := none } : Oper)
abbrev cop20 : Oper := ({ dst := some 30, op := Op.indexAddr 24 (Operand.tmp 27) (Operand.tmp 29), type := 0, pos := "l09_typing.go:298", after := #[{ on := 17, ground := Ground.data }, { on := 19, ground := Ground.data }], guard := none } : Oper)
abbrev cop21 : Oper := ({ dst := some 31, op := Op.load 26 (Operand.tmp 30), type := 26, pos := "l09_typing.go:298", after := #[{ on := 20, ground := Ground.data }], guard := none } : Oper)
abbrev cop22 : Oper := ({ dst := some 4, op := Op.alloc 26, type := 0, pos := "l09_typing.go:298", after := #[], guard := none } : Oper)
abbrev cop23 : Oper := ({ dst := none, op := Op.store 26 (Operand.tmp 4) (Operand.tmp 31), type := 0, pos := "l09_typing.go:298", after := #[{ on := 22, ground := Ground.data }, { on := 21, ground := Ground.data }, { on := 19, ground := Ground.chain }, { on := 0, ground := Ground.phase }, { on := 1, ground := Ground.phase }, { on := 2, ground := Ground.phase }, { on := 3, ground := Ground.phase }, { on := 4, ground := Ground.phase }, { on := 5, ground := Ground.phase }, { on := 6, ground := Ground.phase }, { on := 7, ground := Ground.phase }, { on := 8, ground := Ground.phase }, { on := 9, ground := Ground.phase }, { on := 10, ground := Ground.phase }, { on := 11, ground := Ground.phase }, { on := 12, ground := Ground.phase }, { on := 13, ground := Ground.phase }, { on := 14, ground := Ground.phase }, { on := 15, ground := Ground.phase }, { on := 16, ground := Ground.phase }, { on := 17, ground := Ground.phase }, { on := 18, ground := Ground.phase }, { on := 19, ground := Ground.phase }, { on := 20, ground := Ground.phase }, { on := 21, ground := Ground.phase }, { on := 22, ground := Ground.phase }], guard := none } : Oper)
set_option maxRecDepth 100000 in
set_option maxHeartbeats 16000000 in
theorem closed_any (b : Nat) (w : World) (hc : Cur w b) : Calls Tryz.prog 40 #[.pointer (some ⟨b, 0, none⟩)] w (GenT (gB 4) b w) := by
  have hbw := hc.lt
  obtain ⟨wl, hwl, hsz, hbl, qr⟩ := box_new w zero9 29
  have HSL : Hid (Slot w b w.heap.size wl) := Lib.hid ⟨hc.below hbl, grown_below (grownB_refl w _) (Nat.le_refl _) hbl, qr, Nat.le_refl _, hbw⟩
  have HWL := Lib.hid hwl
  have HSZ := Lib.hid hsz
  clear hwl hsz hbl qr hc
  go_enter Tryz.func40, Tryz.ntmps40
  go_wp2_with fail
  rw [show w.alloc (.cells zero9 29) = wl from HWL.out]
  refine (once_any b 4 wl (by decide) (by decide) HSL.out.cur).mono ?_
  rintro e w1 ⟨q1, rfl, hc1, hg1⟩
  have HS1 := Lib.hid (HSL.out.step hc1 hg1)
  clear hc1 hg1
  cases q1 with
  | true =>
    go_wp2_with fail
    refine (sample_any b w1 HS1.out.cur).mono ?_
    rintro e w9 ⟨x1, v, rfl, hx, ⟨tp1, tc1, rp1, rc1, p1, c1, rfl, ht⟩, hc, hg⟩
    have HX1 := Lib.hid hx
    have HT1 := Lib.hid ht
    have HS9 := Lib.hid (HS1.out.step hc hg)
    obtain ⟨⟨r0, r1, r2, r3, r4, r5, r6, r7, r8⟩, rz⟩ := zero9_facts HS9.out.box
    clear hx ht hc hg
    go_wp2_with fail
    refine bodyPost_ret (v := tmV x1 tp1 tc1 rp1 rc1 p1 c1) ?_ rfl ?_
    · rw [results_cell1 rfl]
      go_simp
      all_goals (repeat' apply And.intro) <;> rfl
    · refine HS9.out.fin9 (by have h1 := HX1.out; have := gB_ge 4; omega) (HT1.out.mono (fun z hz _ => ?_))
      have h1 := HS1.out.lt
      have hz' : w1.heap.size ≤ z := hz
      exact ⟨by omega, by omega⟩
  | false =>
    go_wp2_with fail
    refine (l3Int_any w1).mono ?_
    rintro e w2 ⟨rfl, hb2⟩
    obtain ⟨wi, hwi, hsi, hbi, qi⟩ := box_new w2 #[.int .i64 1, .slice none 0 0] 26
    have HSI := Lib.hid ((HS1.out.below hb2).below hbi)
    have HWI := Lib.hid hwi
    have HSZI := Lib.hid hsi
    have HBW : Hid (b < wi.heap.size) := Lib.hid HSI.out.cur.lt
    have HSLO : Hid (w.heap.size ≤ wi.heap.size) := Lib.hid HSI.out.grown.size
    have HFG := Lib.hid (fun (W : World) (hW : wi.grownBy W (some b)) => show W.cell? ⟨w2.heap.size, 0, none⟩ = some (.int .i64 1) ∧ W.cell? ⟨w2.heap.size, 1, none⟩ = some (.slice none 0 0) from by
      have hbl : b < w2.heap.size := by have h1 := HS1.out.cur.lt; have h2 := hb2.size; omega
      have ci := (hW.block w2.heap.size (by omega) (fun e => by have := Option.some.inj e; omega)).trans qi
      exact ⟨cell_of_blk ci 0, cell_of_blk ci 1⟩)
    clear hb2 hwi hsi hbi qi
    go_wp2_with fail
    rw [show w2.alloc (.cells #[.int .i64 1, .slice none 0 0] 26) = wi from HWI.out]
    go_upto_region 4 with fail
    go_cut [4] from 10 to 31 (fun s4 wx => ∃ (tq : Ty) (pq : Option Addr) (cq bx : Nat), s4 = .pointer (some ⟨bx, 0, none⟩) ∧ Drawn w b w.heap.size wi bx tq pq cq wx ∧ tq.form = true ∧ tq.nodes ≤ 4 ∧ wi.heap.size ≤ bx)
    case first =>
      refine wp_region_noPanic ?_
      refine wp_region_held_drew (S := fun w' => w'.cell? ⟨w2.heap.size, 0, none⟩ = some (.int .i64 1) ∧ w'.cell? ⟨w2.heap.size, 1, none⟩ = some (.slice none 0 0)) (by kernel_rfl) ?_ (fun hHeld => ?_)
      · try dsimp only
        exact HFG.out _ (grown_drewB (grownB_refl wi _))
      refine wpAnyH_take (i := 0) (oi := cop0) (v := ?_) rfl (by kernel_rfl) (by kernel_rfl) (by kernel_rfl) (fun _ _ _ h => h) (Or.inl ⟨by rfl, ?_⟩) (by assumption) ?_
      rotate_left
      · intro w hSw
        try dsimp only at hSw
        go_simp
        try with_reducible rfl
      try simp only [Act.put, List.setIfInBounds_toArray, List.set_cons_zero, List.set_cons_succ]
      refine wpAnyH_take (i := 2) (oi := cop2) (v := ?_) rfl (by kernel_rfl) (by kernel_rfl) (by kernel_rfl) (fun _ _ _ h => h) (Or.inl ⟨by rfl, ?_⟩) (by assumption) ?_
      rotate_left
      · intro w hSw
        try dsimp only at hSw
        go_simp
        try with_reducible rfl
      try simp only [Act.put, List.setIfInBounds_toArray, List.set_cons_zero, List.set_cons_succ]
      refine wpAnyH_take (i := 4) (oi := cop4) (v := ?_) rfl (by kernel_rfl) (by kernel_rfl) (by kernel_rfl) (fun _ _ _ h => h) (Or.inl ⟨by rfl, ?_⟩) (by assumption) ?_
      rotate_left
      · intro w hSw
        try dsimp only at hSw
        go_simp
        try with_reducible rfl
      try simp only [Act.put, List.setIfInBounds_toArray, List.set_cons_zero, List.set_cons_succ]
      refine wpAnyH_take (i := 5) (oi := cop5) (v := ?_) rfl (by kernel_rfl) (by kernel_rfl) (by kernel_rfl) (fun _ _ _ h => h) (Or.inl ⟨by rfl, ?_⟩) (by assumption) ?_
      rotate_left
      · intro w hSw
        try dsimp only at hSw
        go_simp
        try with_reducible rfl
      try simp only [Act.put, List.setIfInBounds_toArray, List.set_cons_zero, List.set_cons_succ]
      refine wpAnyH_take (i := 8) (oi := cop8) (v := ?_) rfl (by kernel_rfl) (by kernel_rfl) (by kernel_rfl) (fun _ _ _ h => h) (Or.inl ⟨by rfl, ?_⟩) (by assumption) ?_
      rotate_left
      · intro w hSw
        try dsimp only at hSw
        go_simp
        try with_reducible rfl
      try simp only [Act.put, List.setIfInBounds_toArray, List.set_cons_zero, List.set_cons_succ]
      refine wpAnyH_take (i := 9) (oi := cop9) (v := ?_) rfl (by kernel_rfl) (by kernel_rfl) (by kernel_rfl) (fun _ _ _ h => h) (Or.inl ⟨by rfl, ?_⟩) (by assumption) ?_
      rotate_left
      · intro w hSw
        try dsimp only at hSw
        go_simp
        try with_reducible rfl
      try simp only [Act.put, List.setIfInBounds_toArray, List.set_cons_zero, List.set_cons_succ]
      refine wpAnyH_take (i := 11) (oi := cop11) (v := ?_) rfl (by kernel_rfl) (by kernel_rfl) (by kernel_rfl) (fun _ _ _ h => h) (Or.inl ⟨by rfl, ?_⟩) (by assumption) ?_
      rotate_left
      · intro w hSw
        try dsimp only at hSw
        go_simp
        try with_reducible rfl
      try simp only [Act.put, List.setIfInBounds_toArray, List.set_cons_zero, List.set_cons_succ]
      refine wpAnyH_take (i := 14) (oi := cop14) (v := ?_) rfl (by kernel_rfl) (by kernel_rfl) (by kernel_rfl) (fun _ _ _ h => h) (Or.inl ⟨by rfl, ?_⟩) (by assumption) ?_
      rotate_left
      · intro w hSw
        try dsimp only at hSw
        go_simp
        try with_reducible rfl
      try simp only [Act.put, List.setIfInBounds_toArray, List.set_cons_zero, List.set_cons_succ]
      refine wpAnyH_take (i := 15) (oi := cop15) (v := ?_) rfl (by kernel_rfl) (by kernel_rfl) (by kernel_rfl) (fun _ _ _ h => h) (Or.inl ⟨by rfl, ?_⟩) (by assumption) ?_
      rotate_left
      · intro w hSw
        try dsimp only at hSw
        go_simp
        try with_reducible rfl
      try simp only [Act.put, List.setIfInBounds_toArray, List.set_cons_zero, List.set_cons_succ]
      refine wpAnyH_take (i := 18) (oi := cop18) (v := ?_) rfl (by kernel_rfl) (by kernel_rfl) (by kernel_rfl) (fun _ _ _ h => h) (Or.inl ⟨by rfl, ?_⟩) (by assumption) ?_
      rotate_left
      · intro w hSw
        try dsimp only at hSw
        go_simp
        try with_reducible rfl
      try simp only [Act.put, List.setIfInBounds_toArray, List.set_cons_zero, List.set_cons_succ]
      have H : Hid (LiS w wi wi.drew b none none [] #[]) := Lib.hid (LiS.start HSI.out)
      generalize wi.drew = V at H hHeld ⊢
      refine ready2 1 22 cop1 cop22 (by kernel_rfl) rfl rfl (fun K hK => ?_) (fun K hK => ?_)
      rotate_left
      go_simp
      obtain ⟨B, hB⟩ : ∃ B, B = V := ⟨_, rfl⟩
      subst hB
      obtain ⟨V, hwb⟩ : ∃ x, B.alloc (.cells #[.int .i64 0, .slice none 0 0] 26) = x := ⟨_, rfl⟩
      rw [hwb]
      replace H := Lib.hid (H.out.mkBox hwb)
      clear hwb
      refine hK.out _ _ ?_ (fun hH => ?_)
      · try dsimp only
        first
          | exact HFG.out _ H.out.grown
          | exact ⟨HFG.out _ H.out.grown, H.out.q HQ0.out, H.out.q HQ1.out⟩
      clear hK K
      try simp only [Act.put, List.setIfInBounds_toArray, List.set_cons_zero, List.set_cons_succ]
      rotate_right
      all_goals first
        | refine ready1 1 cop1 (by kernel_rfl) rfl (fun K hK => ?_)
        | skip
      all_goals (go_simp
                 go_at_call 89
                 refine (l3Bool_any _).mono ?_
                 rintro e V2 ⟨rfl, hb⟩
                 replace H := Lib.hid (H.out.below hb)
                 clear hb
                 rename World => V
                 refine hK.out _ _ ?_ (fun hH => ?_)
                 · try dsimp only
                   first
                     | exact HFG.out _ H.out.grown
                     | exact ⟨HFG.out _ H.out.grown, H.out.q HQ0.out, H.out.q HQ1.out⟩
                 clear hK K
                 try simp only [Act.put, List.setIfInBounds_toArray, List.set_cons_zero, List.set_cons_succ])
      refine ready2 3 22 cop3 cop22 (by kernel_rfl) rfl rfl (fun K hK => ?_) (fun K hK => ?_)
      rotate_left
      go_simp
      obtain ⟨B, hB⟩ : ∃ B, B = V := ⟨_, rfl⟩
      subst hB
      obtain ⟨V, hwb⟩ : ∃ x, B.alloc (.cells #[.int .i64 0, .slice none 0 0] 26) = x := ⟨_, rfl⟩
      rw [hwb]
      replace H := Lib.hid (H.out.mkBox hwb)
      clear hwb
      refine hK.out _ _ ?_ (fun hH => ?_)
      · try dsimp only
        first
          | exact HFG.out _ H.out.grown
          | exact ⟨HFG.out _ H.out.grown, H.out.q HQ0.out, H.out.q HQ1.out⟩
      clear hK K
      try simp only [Act.put, List.setIfInBounds_toArray, List.set_cons_zero, List.set_cons_succ]
      rotate_right
      all_goals first
        | refine ready1 3 cop3 (by kernel_rfl) rfl (fun K hK => ?_)
        | skip
      all_goals (go_simp
                 go_at_call 90
                 refine (l3Code_any (C := fun _ => True) (t := .mk 1 []) ⟨_, rfl, .nil _ _⟩ (by decide)).mono ?_
                 rintro e V2 ⟨v1, rfl, hG, hb⟩
                 obtain ⟨s1, rfl, hs⟩ := hG.tt
                 obtain ⟨p1, c1, rfl⟩ := hs.form
                 replace H := Lib.hid ((H.out.below hb).add H.out hs)
                 clear hb hG hs
                 rename World => V
                 refine hK.out _ _ ?_ (fun hH => ?_)
                 · try dsimp only
                   first
                     | exact HFG.out _ H.out.grown
                     | exact ⟨HFG.out _ H.out.grown, H.out.q HQ0.out, H.out.q HQ1.out⟩
                 clear hK K
                 try simp only [Act.put, List.setIfInBounds_toArray, List.set_cons_zero, List.set_cons_succ])
      refine ready2 6 22 cop6 cop22 (by kernel_rfl) rfl rfl (fun K hK => ?_) (fun K hK => ?_)
      rotate_left
      go_simp
      obtain ⟨B, hB⟩ : ∃ B, B = V := ⟨_, rfl⟩
      subst hB
      obtain ⟨V, hwb⟩ : ∃ x, B.alloc (.cells #[.int .i64 0, .slice none 0 0] 26) = x := ⟨_, rfl⟩
      rw [hwb]
      replace H := Lib.hid (H.out.mkBox hwb)
      clear hwb
      refine hK.out _ _ ?_ (fun hH => ?_)
      · try dsimp only
        first
          | exact HFG.out _ H.out.grown
          | exact ⟨HFG.out _ H.out.grown, H.out.q HQ0.out, H.out.q HQ1.out⟩
      clear hK K
      try simp only [Act.put, List.setIfInBounds_toArray, List.set_cons_zero, List.set_cons_succ]
      rotate_right
      all_goals first
        | refine ready1 6 cop6 (by kernel_rfl) rfl (fun K hK => ?_)
        | skip
      all_goals (go_simp
                 go_at_call 91
                 refine (l3Fun_any (C := fun _ => True) (C' := fun _ => True) (t := .mk 1 []) (u := .mk 1 []) ⟨_, rfl, .nil _ _⟩ ⟨_, rfl, .nil _ _⟩ (by decide) (by decide)).mono ?_
                 rintro e V2 ⟨v2, rfl, hG, hb⟩
                 obtain ⟨s2, rfl, hs⟩ := hG.tt
                 obtain ⟨p2, c2, rfl⟩ := hs.form
                 replace H := Lib.hid ((H.out.below hb).add H.out hs)
                 clear hb hG hs
                 rename World => V
                 refine hK.out _ _ ?_ (fun hH => ?_)
                 · try dsimp only
                   first
                     | exact HFG.out _ H.out.grown
                     | exact ⟨HFG.out _ H.out.grown, H.out.q HQ0.out, H.out.q HQ1.out⟩
                 clear hK K
                 try simp only [Act.put, List.setIfInBounds_toArray, List.set_cons_zero, List.set_cons_succ])
      refine ready2 7 22 cop7 cop22 (by kernel_rfl) rfl rfl (fun K hK => ?_) (fun K hK => ?_)
      rotate_left
      go_simp
      obtain ⟨B, hB⟩ : ∃ B, B = V := ⟨_, rfl⟩
      subst hB
      obtain ⟨V, hwb⟩ : ∃ x, B.alloc (.cells #[.int .i64 0, .slice none 0 0] 26) = x := ⟨_, rfl⟩
      rw [hwb]
      replace H := Lib.hid (H.out.mkBox hwb)
      clear hwb
      refine hK.out _ _ ?_ (fun hH => ?_)
      · try dsimp only
        first
          | exact HFG.out _ H.out.grown
          | exact ⟨HFG.out _ H.out.grown, H.out.q HQ0.out, H.out.q HQ1.out⟩
      clear hK K
      try simp only [Act.put, List.setIfInBounds_toArray, List.set_cons_zero, List.set_cons_succ]
      rotate_right
      all_goals first
        | refine ready1 7 cop7 (by kernel_rfl) rfl (fun K hK => ?_)
        | skip
      all_goals (go_simp
                 go_at_call 90
                 refine (l3Code_any (t := .mk 3 [.mk 1 [], .mk 1 []]) ⟨_, rfl, H.out.ts _ (.head _)⟩ (by decide)).mono ?_
                 rintro e V2 ⟨v3, rfl, hG, hb⟩
                 obtain ⟨s3, rfl, hs⟩ := hG.tt
                 obtain ⟨p3, c3, rfl⟩ := hs.form
                 replace H := Lib.hid ((H.out.below hb).add H.out hs)
                 clear hb hG hs
                 rename World => V
                 refine hK.out _ _ ?_ (fun hH => ?_)
                 · try dsimp only
                   first
                     | exact HFG.out _ H.out.grown
                     | exact ⟨HFG.out _ H.out.grown, H.out.q HQ0.out, H.out.q HQ1.out⟩
                 clear hK K
                 try simp only [Act.put, List.setIfInBounds_toArray, List.set_cons_zero, List.set_cons_succ])
      refine ready2 10 22 cop10 cop22 (by kernel_rfl) rfl rfl (fun K hK => ?_) (fun K hK => ?_)
      rotate_left
      go_simp
      obtain ⟨B, hB⟩ : ∃ B, B = V := ⟨_, rfl⟩
      subst hB
      obtain ⟨V, hwb⟩ : ∃ x, B.alloc (.cells #[.int .i64 0, .slice none 0 0] 26) = x := ⟨_, rfl⟩
      rw [hwb]
      replace H := Lib.hid (H.out.mkBox hwb)
      clear hwb
      refine hK.out _ _ ?_ (fun hH => ?_)
      · try dsimp only
        first
          | exact HFG.out _ H.out.grown
          | exact ⟨HFG.out _ H.out.grown, H.out.q HQ0.out, H.out.q HQ1.out⟩
      clear hK K
      try simp only [Act.put, List.setIfInBounds_toArray, List.set_cons_zero, List.set_cons_succ]
      rotate_right
      all_goals first
        | refine ready1 10 cop10 (by kernel_rfl) rfl (fun K hK => ?_)
        | skip
      all_goals (go_simp
                 go_at_call 91
                 refine (l3Fun_any (C := fun _ => True) (C' := fun _ => True) (t := .mk 1 []) (u := .mk 1 []) ⟨_, rfl, .nil _ _⟩ ⟨_, rfl, .nil _ _⟩ (by decide) (by decide)).mono ?_
                 rintro e V2 ⟨v4, rfl, hG, hb⟩
                 obtain ⟨s4, rfl, hs⟩ := hG.tt
                 obtain ⟨p4, c4, rfl⟩ := hs.form
                 replace H := Lib.hid ((H.out.below hb).add H.out hs)
                 clear hb hG hs
                 rename World => V
                 refine hK.out _ _ ?_ (fun hH => ?_)
                 · try dsimp only
                   first
                     | exact HFG.out _ H.out.grown
                     | exact ⟨HFG.out _ H.out.grown, H.out.q HQ0.out, H.out.q HQ1.out⟩
                 clear hK K
                 try simp only [Act.put, List.setIfInBounds_toArray, List.set_cons_zero, List.set_cons_succ])
      refine ready2 12 22 cop12 cop22 (by kernel_rfl) rfl rfl (fun K hK => ?_) (fun K hK => ?_)
      rotate_left
      go_simp
      obtain ⟨B, hB⟩ : ∃ B, B = V := ⟨_, rfl⟩
      subst hB
      obtain ⟨V, hwb⟩ : ∃ x, B.alloc (.cells #[.int .i64 0, .slice none 0 0] 26) = x := ⟨_, rfl⟩
      rw [hwb]
      replace H := Lib.hid (H.out.mkBox hwb)
      clear hwb
      refine hK.out _ _ ?_ (fun hH => ?_)
      · try dsimp only
        first
          | exact HFG.out _ H.out.grown
          | exact ⟨HFG.out _ H.out.grown, H.out.q HQ0.out, H.out.q HQ1.out⟩
      clear hK K
      try simp only [Act.put, List.setIfInBounds_toArray, List.set_cons_zero, List.set_cons_succ]
      rotate_right
      all_goals first
        | refine ready1 12 cop12 (by kernel_rfl) rfl (fun K hK => ?_)
        | skip
      all_goals (go_simp
                 go_at_call 90
                 refine (l3Code_any (C := fun _ => True) (t := .mk 1 []) ⟨_, rfl, .nil _ _⟩ (by decide)).mono ?_
                 rintro e V2 ⟨v5, rfl, hG, hb⟩
                 obtain ⟨s5, rfl, hs⟩ := hG.tt
                 obtain ⟨p5, c5, rfl⟩ := hs.form
                 replace H := Lib.hid ((H.out.below hb).add H.out hs)
                 clear hb hG hs
                 rename World => V
                 refine hK.out _ _ ?_ (fun hH => ?_)
                 · try dsimp only
                   first
                     | exact HFG.out _ H.out.grown
                     | exact ⟨HFG.out _ H.out.grown, H.out.q HQ0.out, H.out.q HQ1.out⟩
                 clear hK K
                 try simp only [Act.put, List.setIfInBounds_toArray, List.set_cons_zero, List.set_cons_succ])
      refine ready2 13 22 cop13 cop22 (by kernel_rfl) rfl rfl (fun K hK => ?_) (fun K hK => ?_)
      rotate_left
      go_simp
      obtain ⟨B, hB⟩ : ∃ B, B = V := ⟨_, rfl⟩
      subst hB
      obtain ⟨V, hwb⟩ : ∃ x, B.alloc (.cells #[.int .i64 0, .slice none 0 0] 26) = x := ⟨_, rfl⟩
      rw [hwb]
      replace H := Lib.hid (H.out.mkBox hwb)
      clear hwb
      refine hK.out _ _ ?_ (fun hH => ?_)
      · try dsimp only
        first
          | exact HFG.out _ H.out.grown
          | exact ⟨HFG.out _ H.out.grown, H.out.q HQ0.out, H.out.q HQ1.out⟩
      clear hK K
      try simp only [Act.put, List.setIfInBounds_toArray, List.set_cons_zero, List.set_cons_succ]
      rotate_right
      all_goals first
        | refine ready1 13 cop13 (by kernel_rfl) rfl (fun K hK => ?_)
        | skip
      all_goals (go_simp
                 go_at_call 90
                 refine (l3Code_any (t := .mk 4 [.mk 1 []]) ⟨_, rfl, H.out.ts _ (.head _)⟩ (by decide)).mono ?_
                 rintro e V2 ⟨v6, rfl, hG, hb⟩
                 obtain ⟨s6, rfl, hs⟩ := hG.tt
                 obtain ⟨p6, c6, rfl⟩ := hs.form
                 replace H := Lib.hid ((H.out.below hb).add H.out hs)
                 clear hb hG hs
                 rename World => V
                 refine hK.out _ _ ?_ (fun hH => ?_)
                 · try dsimp only
                   first
                     | exact HFG.out _ H.out.grown
                     | exact ⟨HFG.out _ H.out.grown, H.out.q HQ0.out, H.out.q HQ1.out⟩
                 clear hK K
                 try simp only [Act.put, List.setIfInBounds_toArray, List.set_cons_zero, List.set_cons_succ])
      refine ready2 16 22 cop16 cop22 (by kernel_rfl) rfl rfl (fun K hK => ?_) (fun K hK => ?_)
      rotate_left
      go_simp
      obtain ⟨B, hB⟩ : ∃ B, B = V := ⟨_, rfl⟩
      subst hB
      obtain ⟨V, hwb⟩ : ∃ x, B.alloc (.cells #[.int .i64 0, .slice none 0 0] 26) = x := ⟨_, rfl⟩
      rw [hwb]
      replace H := Lib.hid (H.out.mkBox hwb)
      clear hwb
      refine hK.out _ _ ?_ (fun hH => ?_)
      · try dsimp only
        first
          | exact HFG.out _ H.out.grown
          | exact ⟨HFG.out _ H.out.grown, H.out.q HQ0.out, H.out.q HQ1.out⟩
      clear hK K
      try simp only [Act.put, List.setIfInBounds_toArray, List.set_cons_zero, List.set_cons_succ]
      rotate_right
      all_goals first
        | refine ready1 16 cop16 (by kernel_rfl) rfl (fun K hK => ?_)
        | skip
      all_goals (go_simp
                 go_at_call 90
                 refine (l3Code_any (C := fun _ => True) (t := .mk 1 []) ⟨_, rfl, .nil _ _⟩ (by decide)).mono ?_
                 rintro e V2 ⟨v7, rfl, hG, hb⟩
                 obtain ⟨s7, rfl, hs⟩ := hG.tt
                 obtain ⟨p7, c7, rfl⟩ := hs.form
                 replace H := Lib.hid ((H.out.below hb).add H.out hs)
                 clear hb hG hs
                 rename World => V
                 refine hK.out _ _ ?_ (fun hH => ?_)
                 · try dsimp only
                   first
                     | exact HFG.out _ H.out.grown
                     | exact ⟨HFG.out _ H.out.grown, H.out.q HQ0.out, H.out.q HQ1.out⟩
                 clear hK K
                 try simp only [Act.put, List.setIfInBounds_toArray, List.set_cons_zero, List.set_cons_succ])
      refine ready3 17 19 22 cop17 cop19 cop22 (by kernel_rfl) rfl rfl rfl (fun K hK => ?_) (fun K hK => ?_) (fun K hK => ?_)
      rotate_left 2
      go_simp
      obtain ⟨B, hB⟩ : ∃ B, B = V := ⟨_, rfl⟩
      subst hB
      obtain ⟨V, hwb⟩ : ∃ x, B.alloc (.cells #[.int .i64 0, .slice none 0 0] 26) = x := ⟨_, rfl⟩
      rw [hwb]
      replace H := Lib.hid (H.out.mkBox hwb)
      clear hwb
      refine hK.out _ _ ?_ (fun hH => ?_)
      · try dsimp only
        first
          | exact HFG.out _ H.out.grown
          | exact ⟨HFG.out _ H.out.grown, H.out.q HQ0.out, H.out.q HQ1.out⟩
      clear hK K
      try simp only [Act.put, List.setIfInBounds_toArray, List.set_cons_zero, List.set_cons_succ]
      all_goals first
        | (have hm := H.out.boxf
           clear hm
           refine ready2 17 19 cop17 cop19 (by kernel_rfl) rfl rfl (fun K hK => ?_) (fun K hK => ?_))
        | skip
      all_goals first
        | (go_simp
           obtain ⟨R, hR⟩ : ∃ R, R = V := ⟨_, rfl⟩
           subst hR
           obtain ⟨V, hwb⟩ : ∃ x, R.alloc (.cells (litC p1 p3 p4 p6 p7 c1 c3 c4 c6 c7) 26) = x := ⟨_, rfl⟩
           rw [show R.alloc (.cells #[.int .i64 1, .slice none 0 0, .int .i64 2, .slice none 0 0, .int .i64 4, .slice p1 1 c1, .int .i64 4, .slice p3 1 c3, .int .i64 3, .slice p4 2 c4, .int .i64 4, .slice p6 1 c6, .int .i64 1, .slice none 0 0, .int .i64 4, .slice p7 1 c7] 26) = V from hwb]
           replace H := Lib.hid (H.out.mkLit hwb)
           clear hwb
           refine hK.out _ _ ?_ (fun hH => ?_)
           · try dsimp only
             first
               | exact HFG.out _ H.out.grown
               | exact ⟨HFG.out _ H.out.grown, H.out.q HQ0.out, H.out.q HQ1.out⟩
           clear hK K
           try simp only [Act.put, List.setIfInBounds_toArray, List.set_cons_zero, List.set_cons_succ])
        | (go_simp
           go_at_call 41
           refine (below_any b 8 _ (by decide) (by decide) H.out.slot.cur).mono ?_
           rintro e V2 ⟨x, hx, rfl, hc, hg⟩
           obtain ⟨kx, rfl⟩ : ∃ kx : Nat, x = (kx : Int) := ⟨x.toNat, by omega⟩
           have HKX : Hid (kx < 8) := Lib.hid (by omega)
           have ix0 : (0 : Int) ≤ (kx : Int) := Int.natCast_nonneg _
           have ix1 : (kx : Int) < 8 := by omega
           replace H := Lib.hid (H.out.draw HBW.out hc hg)
           clear hc hg hx
           rename World => V
           refine hK.out _ _ ?_ (fun hH => ?_)
           · try dsimp only
             first
               | exact HFG.out _ H.out.grown
               | exact ⟨HFG.out _ H.out.grown, H.out.q HQ0.out, H.out.q HQ1.out⟩
           clear hK K
           try simp only [Act.put, List.setIfInBounds_toArray, List.set_cons_zero, List.set_cons_succ])
      all_goals first
        | (have hm := H.out.boxf
           have hl := H.out.litf
           clear hm hl
           refine ready1 19 cop19 (by kernel_rfl) rfl (fun K hK => ?_))
        | (have hm := H.out.boxf
           clear hm
           refine ready1 17 cop17 (by kernel_rfl) rfl (fun K hK => ?_))
        | (have hl := H.out.litf
           clear hl
           refine ready2 19 22 cop19 cop22 (by kernel_rfl) rfl rfl (fun K hK => ?_) (fun K hK => ?_))
        | refine ready2 17 22 cop17 cop22 (by kernel_rfl) rfl rfl (fun K hK => ?_) (fun K hK => ?_)
      all_goals first
        | (go_simp
           obtain ⟨R, hR⟩ : ∃ R, R = V := ⟨_, rfl⟩
           subst hR
           obtain ⟨V, hwb⟩ : ∃ x, R.alloc (.cells (litC p1 p3 p4 p6 p7 c1 c3 c4 c6 c7) 26) = x := ⟨_, rfl⟩
           rw [show R.alloc (.cells #[.int .i64 1, .slice none 0 0, .int .i64 2, .slice none 0 0, .int .i64 4, .slice p1 1 c1, .int .i64 4, .slice p3 1 c3, .int .i64 3, .slice p4 2 c4, .int .i64 4, .slice p6 1 c6, .int .i64 1, .slice none 0 0, .int .i64 4, .slice p7 1 c7] 26) = V from hwb]
           replace H := Lib.hid (H.out.mkLit hwb)
           clear hwb
           refine hK.out _ _ ?_ (fun hH => ?_)
           · try dsimp only
             first
               | exact HFG.out _ H.out.grown
               | exact ⟨HFG.out _ H.out.grown, H.out.q HQ0.out, H.out.q HQ1.out⟩
           clear hK K
           try simp only [Act.put, List.setIfInBounds_toArray, List.set_cons_zero, List.set_cons_succ])
        | (go_simp
           go_at_call 41
           refine (below_any b 8 _ (by decide) (by decide) H.out.slot.cur).mono ?_
           rintro e V2 ⟨x, hx, rfl, hc, hg⟩
           obtain ⟨kx, rfl⟩ : ∃ kx : Nat, x = (kx : Int) := ⟨x.toNat, by omega⟩
           have HKX : Hid (kx < 8) := Lib.hid (by omega)
           have ix0 : (0 : Int) ≤ (kx : Int) := Int.natCast_nonneg _
           have ix1 : (kx : Int) < 8 := by omega
           replace H := Lib.hid (H.out.draw HBW.out hc hg)
           clear hc hg hx
           rename World => V
           refine hK.out _ _ ?_ (fun hH => ?_)
           · try dsimp only
             first
               | exact HFG.out _ H.out.grown
               | exact ⟨HFG.out _ H.out.grown, H.out.q HQ0.out, H.out.q HQ1.out⟩
           clear hK K
           try simp only [Act.put, List.setIfInBounds_toArray, List.set_cons_zero, List.set_cons_succ])
        | (go_simp
           obtain ⟨B, hB⟩ : ∃ B, B = V := ⟨_, rfl⟩
           subst hB
           obtain ⟨V, hwb⟩ : ∃ x, B.alloc (.cells #[.int .i64 0, .slice none 0 0] 26) = x := ⟨_, rfl⟩
           rw [hwb]
           replace H := Lib.hid (H.out.mkBox hwb)
           clear hwb
           refine hK.out _ _ ?_ (fun hH => ?_)
           · try dsimp only
             first
               | exact HFG.out _ H.out.grown
               | exact ⟨HFG.out _ H.out.grown, H.out.q HQ0.out, H.out.q HQ1.out⟩
           clear hK K
           try simp only [Act.put, List.setIfInBounds_toArray, List.set_cons_zero, List.set_cons_succ])
      all_goals first
        | (have hl := H.out.litf
           have hd := HKX.out
           clear hl hd)
        | (have hm := H.out.boxf
           have hl := H.out.litf
           clear hm hl
           refine ready1 19 cop19 (by kernel_rfl) rfl (fun K hK => ?_))
        | (have hm := H.out.boxf
           clear hm
           refine ready1 17 cop17 (by kernel_rfl) rfl (fun K hK => ?_))
      all_goals first
        | (go_simp
           obtain ⟨R, hR⟩ : ∃ R, R = V := ⟨_, rfl⟩
           subst hR
           obtain ⟨V, hwb⟩ : ∃ x, R.alloc (.cells (litC p1 p3 p4 p6 p7 c1 c3 c4 c6 c7) 26) = x := ⟨_, rfl⟩
           rw [show R.alloc (.cells #[.int .i64 1, .slice none 0 0, .int .i64 2, .slice none 0 0, .int .i64 4, .slice p1 1 c1, .int .i64 4, .slice p3 1 c3, .int .i64 3, .slice p4 2 c4, .int .i64 4, .slice p6 1 c6, .int .i64 1, .slice none 0 0, .int .i64 4, .slice p7 1 c7] 26) = V from hwb]
           replace H := Lib.hid (H.out.mkLit hwb)
           clear hwb
           refine hK.out _ _ ?_ (fun hH => ?_)
           · try dsimp only
             first
               | exact HFG.out _ H.out.grown
               | exact ⟨HFG.out _ H.out.grown, H.out.q HQ0.out, H.out.q HQ1.out⟩
           clear hK K
           try simp only [Act.put, List.setIfInBounds_toArray, List.set_cons_zero, List.set_cons_succ])
        | (go_simp
           go_at_call 41
           refine (below_any b 8 _ (by decide) (by decide) H.out.slot.cur).mono ?_
           rintro e V2 ⟨x, hx, rfl, hc, hg⟩
           obtain ⟨kx, rfl⟩ : ∃ kx : Nat, x = (kx : Int) := ⟨x.toNat, by omega⟩
           have HKX : Hid (kx < 8) := Lib.hid (by omega)
           have ix0 : (0 : Int) ≤ (kx : Int) := Int.natCast_nonneg _
           have ix1 : (kx : Int) < 8 := by omega
           replace H := Lib.hid (H.out.draw HBW.out hc hg)
           clear hc hg hx
           rename World => V
           refine hK.out _ _ ?_ (fun hH => ?_)
           · try dsimp only
             first
               | exact HFG.out _ H.out.grown
               | exact ⟨HFG.out _ H.out.grown, H.out.q HQ0.out, H.out.q HQ1.out⟩
           clear hK K
           try simp only [Act.put, List.setIfInBounds_toArray, List.set_cons_zero, List.set_cons_succ])
        | skip
      all_goals (obtain ⟨tq, pq, cq, hq0, hq1, hTq, hfq, hnq⟩ := lit_pick H.out HKX.out
                 have HQ0 := Lib.hid hq0
                 have HQ1 := Lib.hid hq1
                 have HFQ := Lib.hid (And.intro hfq hnq)
                 replace H := Lib.hid (H.out.only hTq)
                 clear hq0 hq1 hTq hfq hnq
                 refine wpAnyH_take (i := 20) (oi := cop20) (v := ?_) rfl (by kernel_rfl) (by kernel_rfl) (by kernel_rfl) (fun _ _ _ h => h) (Or.inl ⟨by rfl, ?_⟩) (by assumption) ?_
                 rotate_left
                 · intro w hSw
                   try dsimp only at hSw
                   go_simp
                   try with_reducible rfl
                 try simp only [Act.put, List.setIfInBounds_toArray, List.set_cons_zero, List.set_cons_succ]
                 refine wpAnyH_mono (S' := (fun w' => (w'.cell? ⟨w2.heap.size, 0, none⟩ = some (.int .i64 1) ∧ w'.cell? ⟨w2.heap.size, 1, none⟩ = some (.slice none 0 0)) ∧ w'.cell? ⟨R.heap.size, kx * 2, none⟩ = some (.int .i64 tq.kind) ∧ w'.cell? ⟨R.heap.size, kx * 2 + 1, none⟩ = some (.slice pq tq.args.length cq))) (fun w h => h.1) _ _ _ _ ?_
                 have hHX : (V.cell? ⟨w2.heap.size, 0, none⟩ = some (.int .i64 1) ∧ V.cell? ⟨w2.heap.size, 1, none⟩ = some (.slice none 0 0)) ∧ V.cell? ⟨R.heap.size, kx * 2, none⟩ = some (.int .i64 tq.kind) ∧ V.cell? ⟨R.heap.size, kx * 2 + 1, none⟩ = some (.slice pq tq.args.length cq) := ⟨HFG.out _ H.out.grown, H.out.q HQ0.out, H.out.q HQ1.out⟩
                 refine wpAnyH_take (i := 21) (oi := cop21) (v := ?_) rfl (by kernel_rfl) (by kernel_rfl) (by kernel_rfl) (fun _ _ _ h => h) (Or.inl ⟨by rfl, ?_⟩) (by assumption) ?_
                 rotate_left
                 · intro w hSw
                   try dsimp only at hSw
                   go_simp
                   try with_reducible rfl
                 try simp only [Act.put, List.setIfInBounds_toArray, List.set_cons_zero, List.set_cons_succ])
      all_goals first
        | (have hm := H.out.boxf
           clear hm)
        | (refine ready1 22 cop22 (by kernel_rfl) rfl (fun K hK => ?_)
           go_simp
           obtain ⟨B, hB⟩ : ∃ B, B = V := ⟨_, rfl⟩
           subst hB
           obtain ⟨V, hwb⟩ : ∃ x, B.alloc (.cells #[.int .i64 0, .slice none 0 0] 26) = x := ⟨_, rfl⟩
           rw [hwb]
           replace H := Lib.hid (H.out.mkBox hwb)
           clear hwb
           refine hK.out _ _ ?_ (fun hH => ?_)
           · try dsimp only
             first
               | exact HFG.out _ H.out.grown
               | exact ⟨HFG.out _ H.out.grown, H.out.q HQ0.out, H.out.q HQ1.out⟩
           clear hK K
           try simp only [Act.put, List.setIfInBounds_toArray, List.set_cons_zero, List.set_cons_succ])
      all_goals (refine ready1 23 cop23 (by kernel_rfl) rfl (fun K hK => ?_)
                 obtain ⟨x0, x1, xz⟩ := H.out.boxf
                 go_simp
                 refine hK.out _ _ ?_ (fun hH => ?_)
                 · try dsimp only
                   have hn : w2.heap.size ≠ B.heap.size := by have := (H.out.box _ rfl).1; have := HSZI.out; omega
                   have hm := H.out.ne _ _ rfl rfl
                   exact ⟨⟨aft hn (HFG.out _ H.out.grown).1, aft hn (HFG.out _ H.out.grown).2⟩, aft (Ne.symm hm) (H.out.q HQ0.out), aft (Ne.symm hm) (H.out.q HQ1.out)⟩
                 clear hK K
                 try simp only [Act.put, List.setIfInBounds_toArray, List.set_cons_zero, List.set_cons_succ]
                 refine wpAnyH_done (by kernel_rfl) ?_ _
                 refine NoPanic.normal ?_
                 go_wp2_with fail
                 go_meet
                 exact ⟨tq, pq, cq, B.heap.size, rfl, H.out.fill HSLO.out, HFQ.out.1, HFQ.out.2, (H.out.box _ rfl).1⟩)
    case rest =>
      obtain ⟨tq, pq, cq, bx, rfl, hD, hfq, hnq, hbx⟩ := hcut
      have HD := Lib.hid hD
      have hlt : w.heap.size < bx := by have h1 := HSI.out.lt; omega
      have HBB : Hid (b < wi.heap.size) := Lib.hid HSI.out.cur.lt
      have HFX := Lib.hid (fun (W : World) (hW : wc.grownBy W (some b)) => show W.cell? ⟨bx, 0, none⟩ = some (.int .i64 tq.kind) ∧ W.cell? ⟨bx, 1, none⟩ = some (.slice pq tq.args.length cq) from by
        have ci := (hW.block bx (Array.getElem?_eq_some_iff.1 HD.out.box).1 (fun e => by have := Option.some.inj e; have := HBB.out; omega)).trans HD.out.box
        exact ⟨cell_of_blk ci 0, cell_of_blk ci 1⟩)
      have HTX := Lib.hid (fun (W : World) (hW : wc.grownBy W (some b)) => HD.out.ts.stays (grown_stays hW (fun z hz => by have hz' : wi.heap.size ≤ z ∧ z ≠ bx := hz; have := HBB.out; omega)))
      have HSD := Lib.hid (HD.out.slot.below (Below.refl _ wc).drew)
      have HGD : Hid (wc.grownBy wc.drew (some b)) := Lib.hid (grown_drewB (grownB_refl wc _))
      have HAL := Lib.hid (al_below wc (.cells #[] 79))
      have HSA := Lib.hid ((HD.out.slot.below HAL.out).below (Below.refl _ _).drew)
      have HGA : Hid (wc.grownBy (wc.alloc (.cells #[] 79)).drew (some b)) := Lib.hid (grown_drewB (grown_below (grownB_refl wc _) (Nat.le_refl _) HAL.out))
      have HFQ := Lib.hid hfq
      have HNQ := Lib.hid hnq
      have HCB : Hid (∀ z, (wi.heap.size ≤ z ∧ z ≠ bx) → z ≠ b) := Lib.hid (fun z hz e => by have := HBB.out; omega)
      clear hD hfq hnq hbx
      go_wp2_with fail
      have FL0 := Lib.hid trivial
      have FL1 := Lib.hid trivial
      go_region_held3 (fun w' => w'.cell? ⟨bx, 0, none⟩ = some (.int .i64 tq.kind) ∧ w'.cell? ⟨bx, 1, none⟩ = some (.slice pq tq.args.length cq))
        (first
          | with_reducible exact HFX.out _ HGD.out
          | with_reducible exact HFX.out _ HGA.out
          | with_reducible exact HFX.out _ HG9.out
          | with_reducible exact HFX.out (World.alloc w9 _) (grown_below HG9.out HG9.out.size (al_below w9 _))
          | with_reducible exact HFX.out _ HG10.out
          | with_reducible exact ⟨keep9 (HFX.out _ HG10.out).1 (by omega), keep9 (HFX.out _ HG10.out).2 (by omega)⟩
          | (go_keep; done))
        (first
          | (clear FL0
             go_at_call 41
             first
               | (refine (below_any b 3 wc.drew (by decide) (by decide) HSD.out.cur).mono ?_
                  rintro e w9 ⟨x, hx, rfl, hc, hg⟩
                  have HG9 : Hid (wc.grownBy w9 (some b)) := Lib.hid (grownBy_trans HGD.out hg)
                  have HS9 := Lib.hid (HSD.out.step hc hg)
                  have HX : Hid (0 ≤ x ∧ x < 3) := Lib.hid hx
                  have a1 : IntKind.i64.wrap (3 + x) = 3 + x := IntWalk.i64_in _ (by omega)
                  clear hc hg hx)
               | (refine (below_any b 3 (wc.alloc (.cells #[] 79)).drew (by decide) (by decide) HSA.out.cur).mono ?_
                  rintro e w9 ⟨x, hx, rfl, hc, hg⟩
                  have HG9 : Hid (wc.grownBy w9 (some b)) := Lib.hid (grownBy_trans HGA.out hg)
                  have HS9 := Lib.hid (HSA.out.step hc hg)
                  have HX : Hid (0 ≤ x ∧ x < 3) := Lib.hid hx
                  have a1 : IntKind.i64.wrap (3 + x) = 3 + x := IntWalk.i64_in _ (by omega)
                  clear hc hg hx))
          | (clear FL1
             go_at_call 92
             first
               | (refine (gen_all b 4 (3 + x) (by have := HX.out; omega) (by omega) (fun z => wi.heap.size ≤ z ∧ z ≠ bx) [] _ _ tq _ 0 w9 (cx_nil _ _ _ _) ⟨_, rfl, HTX.out _ HG9.out⟩ HFQ.out (by have := HNQ.out; omega) (by decide) HCB.out HS9.out.cur).mono ?_
                  rintro e w10 ⟨x1, v, rfl, hx1, ⟨tp1, tc1, rp1, rc1, p1, c1, rfl, ht⟩, hc, hg⟩
                  have HG10 : Hid (wc.grownBy w10 (some b)) := Lib.hid (grownBy_trans HG9.out hg)
                  have HS10 := Lib.hid (HS9.out.step hc hg)
                  have HLX : Hid (w.heap.size < w9.heap.size) := Lib.hid HS9.out.lt
                  have HX1 := Lib.hid hx1
                  have HT1 := Lib.hid (ht.mono (C' := fun z => w.heap.size ≤ z ∧ z ≠ w.heap.size) (fun z hz _ => by have hz' : w9.heap.size ≤ z := hz; have := HLX.out; exact ⟨by omega, by omega⟩))
                  obtain ⟨⟨r0, r1, r2, r3, r4, r5, r6, r7, r8⟩, rz⟩ := zero9_facts HS10.out.box
                  clear hx1 ht hc hg)
               | (refine (gen_all b 4 (3 + x) (by have := HX.out; omega) (by omega) (fun z => wi.heap.size ≤ z ∧ z ≠ bx) [] _ _ tq _ 0 (w9.alloc (.cells #[] 79)) (cx_nil _ _ _ _) ⟨_, rfl, (HTX.out _ HG9.out).stays (.of_below (al_below w9 _))⟩ HFQ.out (by have := HNQ.out; omega) (by decide) HCB.out (HS9.out.below (al_below w9 _)).cur).mono ?_
                  rintro e w10 ⟨x1, v, rfl, hx1, ⟨tp1, tc1, rp1, rc1, p1, c1, rfl, ht⟩, hc, hg⟩
                  have HG10 : Hid (wc.grownBy w10 (some b)) := Lib.hid (grownBy_trans (grown_below HG9.out HG9.out.size (al_below w9 _)) hg)
                  have HS10 := Lib.hid ((HS9.out.below (al_below w9 _)).step hc hg)
                  have HLX : Hid (w.heap.size < w9.heap.size) := Lib.hid HS9.out.lt
                  have HX1 := Lib.hid hx1
                  have HT1 := Lib.hid (ht.mono (C' := fun z => w.heap.size ≤ z ∧ z ≠ w.heap.size) (fun z hz _ => by have hz' : (w9.alloc (.cells #[] 79)).heap.size ≤ z := hz; rw [World.size_alloc] at hz'; have := HLX.out; exact ⟨by omega, by omega⟩))
                  obtain ⟨⟨r0, r1, r2, r3, r4, r5, r6, r7, r8⟩, rz⟩ := zero9_facts HS10.out.box
                  clear hx1 ht hc hg)))
      all_goals
        go_wp2_with fail
        refine bodyPost_ret (v := tmV x1 tp1 tc1 rp1 rc1 p1 c1) ?_ rfl ?_
        · rw [results_cell1 rfl]
          go_simp
          all_goals (repeat' apply And.intro) <;> rfl
        · exact HS10.out.fin9 HX1.out HT1.out
def DrawsML (m : Nat) (w : World) (e : Ending) (w' : World) : Prop := ∃ v t n, e = .returned (.tuple #[v, .int .i64 n]) ∧ t.wt ≤ m ∧ TM w' (fun z => w.heap.size ≤ z) t v ∧ Below w.heap.size w w'
section
variable {w W W' : World} {b bx : Nat} {t : Tm} {tp rp p : Option Addr} {tc rc c : Nat}
theorem Lifts.belowW (h : Lifts w W b bx t tp tc rp rc p c) (hb : Below W.heap.size W W') : Lifts w W' b bx t tp tc rp rc p c :=
  have h1 := h.ltb
  have h2 := h.ltx
  have h3 := h.bxlt
  ⟨h.cur.below hb, (hb.block _ (by omega)).trans h.r, (hb.block _ h3).trans h.box, h.tm.stays (.of_below hb), h.below.trans (hb.mono h.below.size), h1, h2⟩
theorem Lifts.put {u : Tm} {tq rq q : Option Addr} {td rd d : Nat} (h : Lifts w W b bx t tp tc rp rc p c) (hu : TM' W (fun z => b < z ∧ z ≠ bx) u tq td rq rd q d) :
    Lifts w (setN W bx 0 [.int .i64 u.kind, .string u.name, .string u.other, .int .i64 u.n, .int .i64 u.ty.kind, .slice tq u.ty.args.length td, .int .i64 u.res.kind, .slice rq u.res.args.length rd, .slice q u.args.length d]) b bx u tq td rq rd q d := by
  have h1 := h.ltb
  have h2 := h.ltx
  have hb := setN_below [.int .i64 u.kind, .string u.name, .string u.other, .int .i64 u.n, .int .i64 u.ty.kind, .slice tq u.ty.args.length td, .int .i64 u.res.kind, .slice rq u.res.args.length rd, .slice q u.args.length d] bx W bx 0 (Nat.le_refl _)
  have hst := setN_stays [.int .i64 u.kind, .string u.name, .string u.other, .int .i64 u.n, .int .i64 u.ty.kind, .slice tq u.ty.args.length td, .int .i64 u.res.kind, .slice rq u.res.args.length rd, .slice q u.args.length d] (fun z => b < z ∧ z ≠ bx) W bx 0 (by simp)
  refine ⟨h.cur.belowAt h2 hb, (hb.block _ (by omega)).trans h.r, ?_, hu.stays hst, h.below.trans (hb.mono (by omega)), h1, h2⟩
  rw [setN_block _ _ _ _ _ _ h.box]
  simp [setA, tmC]
abbrev Nine (W : World) (bx : Nat) (t : Tm) (tp : Option Addr) (tc : Nat) (rp : Option Addr) (rc : Nat) (p : Option Addr) (c : Nat) : Prop := W.cell? ⟨bx, 0, none⟩ = some (.int .i64 t.kind) ∧ W.cell? ⟨bx, 1, none⟩ = some (.string t.name) ∧ W.cell? ⟨bx, 2, none⟩ = some (.string t.other) ∧ W.cell? ⟨bx, 3, none⟩ = some (.int .i64 t.n) ∧ W.cell? ⟨bx, 4, none⟩ = some (.int .i64 t.ty.kind) ∧ W.cell? ⟨bx, 5, none⟩ = some (.slice tp t.ty.args.length tc) ∧ W.cell? ⟨bx, 6, none⟩ = some (.int .i64 t.res.kind) ∧ W.cell? ⟨bx, 7, none⟩ = some (.slice rp t.res.args.length rc) ∧ W.cell? ⟨bx, 8, none⟩ = some (.slice p t.args.length c)
theorem Lifts.nine (h : Lifts w W b bx t tp tc rp rc p c) : Nine W bx t tp tc rp rc p c := by
  obtain ⟨g0, g1, g2, g3, g4, g5, g6, g7, g8⟩ := h.facts.1
  exact ⟨g0, g1, g2, g3, g4, g5, g6, g7, g8⟩
end
set_option maxRecDepth 100000 in
set_option maxHeartbeats 8000000 in
theorem drawLv_any (v : Value) (w : World) (hv : Bytes w v) (hlen : sliceLen v ≤ 1048576) : Calls Tryz.prog 8 #[v] w (DrawsML 30000 w) := by
  have hba := al_below w (.cells zero9 29)
  have hn := new_any v (w.alloc (.cells zero9 29)) (hv.below hba) hlen
  have HN := Lib.hid hn
  have HBA := Lib.hid hba
  have HR := Lib.hid (blk_new w (.cells zero9 29))
  clear hv hlen hba hn
  go_enter Tryz.func8, Tryz.ntmps8
  go_wp2_with fail
  refine HN.out.mono ?_
  rintro e w1 ⟨rfl, hc1, hb1, hs1⟩
  rw [World.size_alloc] at hc1 hb1 hs1
  rw [World.size_alloc]
  have HC1 := Lib.hid hc1
  have HB1 := Lib.hid hb1
  have HS1 := Lib.hid hs1
  clear hc1 hb1 hs1
  go_wp2_with fail
  refine (bentM_any _ w1 HC1.out).mono ?_
  rintro e w2 ⟨t, tp, tc, rp, rc, p, c, xs, rfl, hw, hN, hc2, hg2⟩
  have hb1 := HB1.out
  have hs1 := HS1.out
  have hsz2 := hg2.size
  have hL : Lifts w (w2.alloc (.cells (tmC t tp tc rp rc p c) 29)) (w.heap.size + 1) w2.heap.size t tp tc rp rc p c := by
    have ha := al_below w2 (.cells (tmC t tp tc rp rc p c) 29)
    have htm : TM' w2 (fun z => w.heap.size + 1 < z ∧ z ≠ w2.heap.size) t tp tc rp rc p c := hN.tm.mono (fun z hz hl => ⟨by have : w1.heap.size ≤ z := hz; omega, by omega⟩)
    refine ⟨hc2.below ha, ?_, blk_new w2 _, htm.stays (.of_below ha), ?_, by omega, by omega⟩
    · exact (ha.block _ (by omega)).trans ((hg2.block _ (by omega) (fun e => by have := Option.some.inj e; omega)).trans ((hb1.block _ (by omega)).trans HR.out))
    · exact ((HBA.out.trans (hb1.mono (by omega))).grown hg2 (by omega) (fun k hk => by cases hk; omega)).trans (ha.mono (by omega))
  have HL := Lib.hid hL
  have HW := Lib.hid (show t.wt ≤ 30000 by omega)
  have HO := Lib.hid (once_any (w.heap.size + 1) 2 _ (by decide) (by decide) hL.cur)
  clear hL hb1 hs1 hc2 hg2 hN hw hsz2
  go_wp2_with fail
  refine HO.out.mono ?_
  rintro e w3 ⟨q, rfl, hc3, hg3⟩
  have HL3 := Lib.hid (HL.out.step hc3 hg3)
  clear hc3 hg3 HO
  cases q with
  | false =>
    have hbx : w2.heap.size ≠ w.heap.size := by have h1 := HL3.out.ltb; have h2 := HL3.out.ltx; omega
    have HLD := Lib.hid (HL3.out.belowW (Below.refl _ w3).drew)
    go_wp2_with fail
    go_region_held3 (fun w' => w'.cell? ⟨w2.heap.size, 0, none⟩ = some (.int .i64 t.kind) ∧ w'.cell? ⟨w2.heap.size, 1, none⟩ = some (.string t.name) ∧ w'.cell? ⟨w2.heap.size, 2, none⟩ = some (.string t.other) ∧ w'.cell? ⟨w2.heap.size, 3, none⟩ = some (.int .i64 t.n) ∧ w'.cell? ⟨w2.heap.size, 4, none⟩ = some (.int .i64 t.ty.kind) ∧ w'.cell? ⟨w2.heap.size, 5, none⟩ = some (.slice tp t.ty.args.length tc) ∧ w'.cell? ⟨w2.heap.size, 6, none⟩ = some (.int .i64 t.res.kind) ∧ w'.cell? ⟨w2.heap.size, 7, none⟩ = some (.slice rp t.res.args.length rc) ∧ w'.cell? ⟨w2.heap.size, 8, none⟩ = some (.slice p t.args.length c))
      (first
        | with_reducible exact HLD.out.nine
        | with_reducible exact HLX.out.nine
        | with_reducible exact ⟨keep9 HLX.out.facts.1.kind hbx, keep9 HLX.out.facts.1.name hbx, keep9 HLX.out.facts.1.other hbx, keep9 HLX.out.facts.1.n hbx, keep9 HLX.out.facts.1.tk hbx, keep9 HLX.out.facts.1.ta hbx, keep9 HLX.out.facts.1.rk hbx, keep9 HLX.out.facts.1.ra hbx, keep9 HLX.out.facts.1.args hbx⟩
        | (go_keep; done))
      (first
        | (go_at_call 41
           refine (below_any (w.heap.size + 1) 5 w3.drew (by decide) (by decide) HLD.out.cur).mono ?_
           rintro e w9 ⟨x, hx, rfl, hc, hg⟩
           have HLX := Lib.hid (HLD.out.step hc hg)
           have a1 : IntKind.i64.wrap (x - 1) = x - 1 := IntWalk.i64_in _ (by omega)
           obtain ⟨-, -, ⟨x0, x1, x2, x3, x4, x5, x6, x7, x8⟩, xz⟩ := HLX.out.facts
           clear hc hg hx))
    all_goals
      go_wp2_with fail
      refine bodyPost_ret (v := .tuple #[tmV t tp tc rp rc p c, .int .i64 (x - 1)]) ?_ rfl ?_
      · rw [results_ct rfl]
        go_simp
      · have hfin := HLX.out.fin (m := 30000) HW.out
        rw [setN9] at hfin
        obtain ⟨v, t', hv, h2, h3, h4⟩ := hfin
        cases hv
        exact ⟨_, _, _, rfl, h2, h3, h4⟩
  | true =>
    go_wp2_with fail
    refine (closed_any (w.heap.size + 1) w3 HL3.out.cur).mono ?_
    rintro e w5 ⟨u, v, rfl, hu, ⟨tq, td, rq, rd, q, d, rfl, ht⟩, hc, hg⟩
    have HL5 := HL3.out.step hc hg
    have HL6 := HL5.put (ht.mono (fun z hz _ => by have h1 := HL3.out.bxlt; have h2 := HL3.out.ltx; have hz' : w3.heap.size ≤ z := hz; exact ⟨by omega, by omega⟩))
    rw [setN9] at HL6
    have HW6 := Lib.hid (show u.wt ≤ 30000 by have : gB 4 = 20100 := rfl; omega)
    obtain ⟨⟨g0, g1, g2, g3, g4, g5, g6, g7, g8⟩, gz, -, -⟩ := HL5.facts
    have HL7 := Lib.hid HL6
    clear HL5 HL6 hu ht hc hg
    go_wp2_with fail
    obtain ⟨wf, hwf⟩ : ∃ wf, (((((((((w5.setCell ⟨w2.heap.size, 0, none⟩ (.int .i64 u.kind)).setCell ⟨w2.heap.size, 1, none⟩ (.string u.name)).setCell ⟨w2.heap.size, 2, none⟩ (.string u.other)).setCell ⟨w2.heap.size, 3, none⟩ (.int .i64 u.n)).setCell ⟨w2.heap.size, 4, none⟩ (.int .i64 u.ty.kind)).setCell ⟨w2.heap.size, 5, none⟩ (.slice tq u.ty.args.length td)).setCell ⟨w2.heap.size, 6, none⟩ (.int .i64 u.res.kind)).setCell ⟨w2.heap.size, 7, none⟩ (.slice rq u.res.args.length rd)).setCell ⟨w2.heap.size, 8, none⟩ (.slice q u.args.length d)) = wf := ⟨_, rfl⟩
    rw [hwf]
    have HL8 : Hid (Lifts w wf (w.heap.size + 1) w2.heap.size u tq td rq rd q d) := Lib.hid (hwf ▸ HL7.out)
    clear HL7 hwf g0 g1 g2 g3 g4 g5 g6 g7 g8 gz
    have hbx : w2.heap.size ≠ w.heap.size := by have h1 := HL8.out.ltb; have h2 := HL8.out.ltx; omega
    have HLD := Lib.hid (HL8.out.belowW (Below.refl _ wf).drew)
    go_wp2_with fail
    go_region_held3 (fun w' => w'.cell? ⟨w2.heap.size, 0, none⟩ = some (.int .i64 u.kind) ∧ w'.cell? ⟨w2.heap.size, 1, none⟩ = some (.string u.name) ∧ w'.cell? ⟨w2.heap.size, 2, none⟩ = some (.string u.other) ∧ w'.cell? ⟨w2.heap.size, 3, none⟩ = some (.int .i64 u.n) ∧ w'.cell? ⟨w2.heap.size, 4, none⟩ = some (.int .i64 u.ty.kind) ∧ w'.cell? ⟨w2.heap.size, 5, none⟩ = some (.slice tq u.ty.args.length td) ∧ w'.cell? ⟨w2.heap.size, 6, none⟩ = some (.int .i64 u.res.kind) ∧ w'.cell? ⟨w2.heap.size, 7, none⟩ = some (.slice rq u.res.args.length rd) ∧ w'.cell? ⟨w2.heap.size, 8, none⟩ = some (.slice q u.args.length d))
      (first
        | with_reducible exact HLD.out.nine
        | with_reducible exact HLX.out.nine
        | with_reducible exact ⟨keep9 HLX.out.facts.1.kind hbx, keep9 HLX.out.facts.1.name hbx, keep9 HLX.out.facts.1.other hbx, keep9 HLX.out.facts.1.n hbx, keep9 HLX.out.facts.1.tk hbx, keep9 HLX.out.facts.1.ta hbx, keep9 HLX.out.facts.1.rk hbx, keep9 HLX.out.facts.1.ra hbx, keep9 HLX.out.facts.1.args hbx⟩
        | (go_keep; done))
      (first
        | (go_at_call 41
           refine (below_any (w.heap.size + 1) 5 wf.drew (by decide) (by decide) HLD.out.cur).mono ?_
           rintro e w9 ⟨x, hx, rfl, hc, hg⟩
           have HLX := Lib.hid (HLD.out.step hc hg)
           have a1 : IntKind.i64.wrap (x - 1) = x - 1 := IntWalk.i64_in _ (by omega)
           obtain ⟨-, -, ⟨x0, x1, x2, x3, x4, x5, x6, x7, x8⟩, xz⟩ := HLX.out.facts
           clear hc hg hx))
    all_goals
      go_wp2_with fail
      refine bodyPost_ret (v := .tuple #[tmV u tq td rq rd q d, .int .i64 (x - 1)]) ?_ rfl ?_
      · rw [results_ct rfl]
        go_simp
      · have hfin := HLX.out.fin (m := 30000) HW6.out
        rw [setN9] at hfin
        obtain ⟨v, t', hv, h2, h3, h4⟩ := hfin
        cases hv
        exact ⟨_, _, _, rfl, h2, h3, h4⟩
def nextL (k n : Int) : Int := if k = 10 then wrap64 (n + 1) else if k = 11 then wrap64 (n - 1) else n
mutual
def Tm.lvOk : Tm → Int → Prop
  | .mk k _ _ _ _ _ ts, n => (0 ≤ n ∧ n ≤ 2) ∧ lvOkS ts (nextL k n)
def lvOkS : List Tm → Int → Prop
  | [], _ => True
  | t :: ts, n => t.lvOk n ∧ lvOkS ts n
end
mutual
def Tm.pln : Tm → Prop
  | .mk k _ _ _ t r ts => plnS ts ∧ k < 10 ∧ t.has 4 = false ∧ r.has 4 = false
def plnS : List Tm → Prop
  | [] => True
  | t :: ts => t.pln ∧ plnS ts
end
mutual
def Tm.made : Tm → Int → Prop
  | .mk k _ _ _ _ _ ts, n => ¬ (k = 11 ∧ n = 1) ∧ madeS ts (nextL k n)
def madeS : List Tm → Int → Prop
  | [], _ => True
  | t :: ts, n => t.made n ∧ madeS ts n
end
mutual
def Tm.splices : Tm → Nat
  | .mk k _ _ _ _ _ ts => (if k = 11 then 1 else 0) + splicesS ts
def splicesS : List Tm → Nat
  | [] => 0
  | t :: ts => t.splices + splicesS ts
end
mutual
def Tm.high : Tm → Int → Int
  | .mk k _ _ _ _ _ ts, n => highS ts (nextL k n) n
def highS : List Tm → Int → Int → Int
  | [], _, m => m
  | t :: ts, n, m => highS ts n (max m (t.high n))
end
theorem Tm.lvOk_eq (t : Tm) (n : Int) : t.lvOk n ↔ (0 ≤ n ∧ n ≤ 2) ∧ lvOkS t.args (nextL t.kind n) := by cases t; simp only [Tm.lvOk, Tm.args, Tm.kind]
theorem Tm.pln_eq (t : Tm) : t.pln ↔ plnS t.args ∧ t.kind < 10 ∧ t.ty.has 4 = false ∧ t.res.has 4 = false := by cases t; simp only [Tm.pln, Tm.args, Tm.kind, Tm.ty, Tm.res]
theorem Tm.made_eq (t : Tm) (n : Int) : t.made n ↔ ¬ (t.kind = 11 ∧ n = 1) ∧ madeS t.args (nextL t.kind n) := by cases t; simp only [Tm.made, Tm.args, Tm.kind]
theorem Tm.splices_eq (t : Tm) : t.splices = (if t.kind = 11 then 1 else 0) + splicesS t.args := by cases t; rfl
theorem Tm.high_eq (t : Tm) (n : Int) : t.high n = highS t.args (nextL t.kind n) n := by cases t; simp only [Tm.high, Tm.args, Tm.kind]
theorem lvOkS_iff (ts : List Tm) (n : Int) : lvOkS ts n ↔ ∀ t ∈ ts, t.lvOk n := by
  induction ts with
  | nil => simp [lvOkS]
  | cons t ts ih => simp only [lvOkS, List.forall_mem_cons, ih]
theorem plnS_iff (ts : List Tm) : plnS ts ↔ ∀ t ∈ ts, t.pln := by
  induction ts with
  | nil => simp [plnS]
  | cons t ts ih => simp only [plnS, List.forall_mem_cons, ih]
theorem madeS_iff (ts : List Tm) (n : Int) : madeS ts n ↔ ∀ t ∈ ts, t.made n := by
  induction ts with
  | nil => simp [madeS]
  | cons t ts ih => simp only [madeS, List.forall_mem_cons, ih]
theorem splicesS_append (a b : List Tm) : splicesS (a ++ b) = splicesS a + splicesS b := by
  induction a with
  | nil => simp [splicesS]
  | cons t a ih => simp only [List.cons_append, splicesS, ih]; omega
theorem splicesS_take (ts : List Tm) (k : Nat) (h : k < ts.length) : splicesS (ts.take (k + 1)) = splicesS (ts.take k) + ts[k].splices := by
  rw [tm_take_next h, splicesS_append]; simp [splicesS]
theorem highS_append (a b : List Tm) (n m : Int) : highS (a ++ b) n m = highS b n (highS a n m) := by
  induction a generalizing m with
  | nil => rfl
  | cons t a ih => simp only [List.cons_append, highS, ih]
theorem highS_take (ts : List Tm) (n m : Int) (k : Nat) (h : k < ts.length) : highS (ts.take (k + 1)) n m = max (highS (ts.take k) n m) (ts[k].high n) := by
  rw [tm_take_next h, highS_append]; simp [highS]
theorem take_all {P : Tm → Prop} {ts : List Tm} {k : Nat} (h : k < ts.length) : (∀ t ∈ ts.take (k + 1), P t) ↔ (∀ t ∈ ts.take k, P t) ∧ P ts[k] := by
  rw [tm_take_next h]
  simp only [List.mem_append, List.mem_singleton]
  constructor
  · intro h1; exact ⟨fun t ht => h1 t (Or.inl ht), h1 _ (Or.inr rfl)⟩
  · rintro ⟨h1, h2⟩ t (ht | rfl)
    · exact h1 t ht
    · exact h2
mutual
theorem splicesS_nodes : ∀ ts : List Tm, splicesS ts ≤ nodesM ts
  | [] => Nat.le_refl _
  | t :: ts => by
    have h1 := Tm.splices_nodes t
    have h2 := splicesS_nodes ts
    simp only [splicesS, nodesM]
    omega
theorem Tm.splices_nodes : ∀ t : Tm, t.splices ≤ t.nodes
  | .mk k a b n t r ts => by
    have := splicesS_nodes ts
    simp only [Tm.splices, Tm.nodes]
    split <;> omega
end
mutual
def walkL : Tm → Int → List (Tm × Int)
  | .mk k a b n t r ts, l => (.mk k a b n t r ts, l) :: walkLS ts (nextL k l)
def walkLS : List Tm → Int → List (Tm × Int)
  | [], _ => []
  | t :: ts, l => walkL t l ++ walkLS ts l
end
mutual
theorem walkL_length : ∀ (t : Tm) (l : Int), (walkL t l).length = t.nodes
  | .mk k a b n t r ts, l => by simp only [walkL, List.length_cons, walkLS_length ts, Tm.nodes]; omega
theorem walkLS_length : ∀ (ts : List Tm) (l : Int), (walkLS ts l).length = nodesM ts
  | [], l => rfl
  | t :: ts, l => by simp only [walkLS, List.length_append, walkLS_length ts, walkL_length t, nodesM]
end
mutual
theorem lvOk_walk : ∀ (t : Tm) (l : Int), t.lvOk l ↔ ∀ e ∈ walkL t l, 0 ≤ e.2 ∧ e.2 ≤ 2
  | .mk k a b n t r ts, l => by
    rw [Tm.lvOk, lvOk_walkS ts, walkL, List.forall_mem_cons]
theorem lvOk_walkS : ∀ (ts : List Tm) (l : Int), lvOkS ts l ↔ ∀ e ∈ walkLS ts l, 0 ≤ e.2 ∧ e.2 ≤ 2
  | [], l => by simp [lvOkS, walkLS]
  | t :: ts, l => by
    have h1 := lvOk_walk t l
    have h2 := lvOk_walkS ts l
    simp only [lvOkS, walkLS, List.forall_mem_append, h1, h2]
end
mutual
theorem made_walk : ∀ (t : Tm) (l : Int), t.made l ↔ ∀ e ∈ walkL t l, ¬ (e.1.kind = 11 ∧ e.2 = 1)
  | .mk k a b n t r ts, l => by
    rw [Tm.made, made_walkS ts, walkL, List.forall_mem_cons]
    simp only [Tm.kind]
theorem made_walkS : ∀ (ts : List Tm) (l : Int), madeS ts l ↔ ∀ e ∈ walkLS ts l, ¬ (e.1.kind = 11 ∧ e.2 = 1)
  | [], l => by simp [madeS, walkLS]
  | t :: ts, l => by
    have h1 := made_walk t l
    have h2 := made_walkS ts l
    simp only [madeS, walkLS, List.forall_mem_append, h1, h2]
end
def topL (m : Int) (l : List (Tm × Int)) : Int := l.foldl (fun m e => max m e.2) m
theorem topL_append (m : Int) (a b : List (Tm × Int)) : topL m (a ++ b) = topL (topL m a) b := by simp [topL]
theorem topL_snoc (m : Int) (a : List (Tm × Int)) (e : Tm × Int) : topL m (a ++ [e]) = max (topL m a) e.2 := by simp [topL]
mutual
theorem high_walk : ∀ (t : Tm) (l m : Int), max m (t.high l) = topL m (walkL t l)
  | .mk k a b n t r ts, l, m => by
    rw [Tm.high, walkL]
    show _ = topL (max m l) (walkLS ts (nextL k l))
    rw [← high_walkS ts, highS_max]
theorem high_walkS : ∀ (ts : List Tm) (l m : Int), highS ts l m = topL m (walkLS ts l)
  | [], l, m => rfl
  | t :: ts, l, m => by
    have h1 := high_walk t l m
    have h2 := high_walkS ts l (max m (t.high l))
    rw [highS, walkLS, topL_append, ← h1, h2]
theorem highS_max : ∀ (ts : List Tm) (l m n : Int), highS ts l (max m n) = max m (highS ts l n)
  | [], l, m, n => rfl
  | t :: ts, l, m, n => by
    have h2 := highS_max ts l m (max n (t.high l))
    rw [highS, highS, ← h2]
    congr 1
    omega
end
theorem high_top (t : Tm) (h : 0 ≤ t.high 0) : t.high 0 = topL 0 (walkL t 0) := by
  rw [← high_walk]; omega
mutual
theorem high_ge : ∀ (t : Tm) (l : Int), l ≤ t.high l
  | .mk k a b n t r ts, l => by rw [Tm.high]; exact highS_ge ts _ l
theorem highS_ge : ∀ (ts : List Tm) (l m : Int), m ≤ highS ts l m
  | [], l, m => Int.le_refl _
  | t :: ts, l, m => by
    have := highS_ge ts l (max m (t.high l))
    rw [highS]; omega
end
theorem high_0 (t : Tm) : t.high 0 = topL 0 (walkL t 0) := high_top t (high_ge t 0)
mutual
theorem pln_walk : ∀ (t : Tm) (d : Nat), t.pln ↔ ∀ e ∈ walkM t d, e.1.kind < 10 ∧ e.1.ty.has 4 = false ∧ e.1.res.has 4 = false
  | .mk k a b n t r ts, d => by
    rw [Tm.pln, pln_walkS ts (d + 1), walkM, List.forall_mem_cons]
    simp only [Tm.kind, Tm.ty, Tm.res]
    exact And.comm
theorem pln_walkS : ∀ (ts : List Tm) (d : Nat), plnS ts ↔ ∀ e ∈ walkSM ts d, e.1.kind < 10 ∧ e.1.ty.has 4 = false ∧ e.1.res.has 4 = false
  | [], d => by simp [plnS, walkSM]
  | t :: ts, d => by
    have h1 := pln_walk t d
    have h2 := pln_walkS ts d
    simp only [plnS, walkSM, List.forall_mem_append, h1, h2]
end
def spl (l : List (Tm × Nat)) : Nat := (l.filter fun e => e.1.kind = 11).length
theorem spl_snoc (l : List (Tm × Nat)) (x : Tm) (d : Nat) : spl (l ++ [(x, d)]) = spl l + (if x.kind = 11 then 1 else 0) := by
  unfold spl
  rw [List.filter_append, List.length_append]
  congr 1
  by_cases h : x.kind = 11 <;> simp [h]
theorem spl_append (a b : List (Tm × Nat)) : spl (a ++ b) = spl a + spl b := by unfold spl; rw [List.filter_append, List.length_append]
theorem spl_le (l : List (Tm × Nat)) : spl l ≤ l.length := List.length_filter_le _ _
mutual
theorem splices_walk : ∀ (t : Tm) (d : Nat), t.splices = spl (walkM t d)
  | .mk k a b n t r ts, d => by
    have h := splices_walkS ts (d + 1)
    rw [Tm.splices, walkM, h]
    show _ = spl ([((.mk k a b n t r ts : Tm), d)] ++ walkSM ts (d + 1))
    rw [spl_append]
    have := spl_snoc [] (.mk k a b n t r ts) d
    rw [List.nil_append] at this
    rw [this]
    have e : spl [] = 0 := rfl
    rw [e, Nat.zero_add]
    rfl
theorem splices_walkS : ∀ (ts : List Tm) (d : Nat), splicesS ts = spl (walkSM ts d)
  | [], d => by simp [splicesS, walkSM, spl]
  | t :: ts, d => by
    have h1 := splices_walk t d
    have h2 := splices_walkS ts d
    rw [splicesS, walkSM, spl_append, ← h1, ← h2]
end
def pushL (st : List Int) (t : Tm) (d : Nat) : List Int := st.take d ++ [nextL t.kind (st.getD (d - 1) 0)]
def stkL (st : List Int) (pre : List (Tm × Nat)) : List Int := pre.foldl (fun st x => pushL st x.1 x.2) st
theorem stkL_snoc (st : List Int) (pre : List (Tm × Nat)) (x : Tm) (d : Nat) : stkL st (pre ++ [(x, d)]) = pushL (stkL st pre) x d := by simp [stkL]
def lvs : List (Tm × Nat) → List Int → List (Tm × Int)
  | [], _ => []
  | (t, d) :: r, st => (t, st.getD (d - 1) 0) :: lvs r (pushL st t d)
theorem lvs_append : ∀ (a b : List (Tm × Nat)) (st : List Int), lvs (a ++ b) st = lvs a st ++ lvs b (stkL st a)
  | [], b, st => rfl
  | (t, d) :: a, b, st => by
    rw [List.cons_append, lvs, lvs, lvs_append a b, List.cons_append]
    rfl
theorem lvs_snoc (pre : List (Tm × Nat)) (x : Tm) (d : Nat) (st : List Int) : lvs (pre ++ [(x, d)]) st = lvs pre st ++ [(x, (stkL st pre).getD (d - 1) 0)] := by
  rw [lvs_append]; rfl
theorem pushL_len {st : List Int} {t : Tm} {d : Nat} (h : d ≤ st.length) : (pushL st t d).length = d + 1 := by
  simp only [pushL, List.length_append, List.length_take, List.length_singleton]; omega
theorem getD_take {st : List Int} {d j : Nat} (h : j < d) : (st.take d).getD j 0 = st.getD j 0 := by
  simp only [List.getD_eq_getElem?_getD, List.getElem?_take, h, if_true]
mutual
theorem lvs_walk : ∀ (t : Tm) (d : Nat) (st : List Int) (r : List (Tm × Nat)), 1 ≤ d → d ≤ st.length →
    ∃ st', st'.take d = st.take d ∧ d ≤ st'.length ∧ lvs (walkM t d ++ r) st = walkL t (st.getD (d - 1) 0) ++ lvs r st'
  | .mk k a b n t x ts, d, st, r, h1, hd => by
    have hl := pushL_len (t := .mk k a b n t x ts) hd
    have hp : (pushL st (.mk k a b n t x ts) d).take d = st.take d := by
      unfold pushL
      rw [List.take_append_of_le_length (by rw [List.length_take]; omega), List.take_take, Nat.min_self]
    have hg : (pushL st (.mk k a b n t x ts) d).getD d 0 = nextL k (st.getD (d - 1) 0) := by
      unfold pushL
      rw [List.getD_eq_getElem?_getD, List.getElem?_append_right (by rw [List.length_take]; omega), List.length_take, Nat.min_eq_left hd, Nat.sub_self]
      rfl
    obtain ⟨st', e1, e2, e3⟩ := lvs_walkS ts (d + 1) (pushL st (.mk k a b n t x ts) d) r (by omega) (by omega)
    refine ⟨st', ?_, by omega, ?_⟩
    · have := congrArg (List.take d) e1
      rw [List.take_take, List.take_take, Nat.min_eq_left (by omega)] at this
      rw [this, hp]
    · rw [walkM, walkL, List.cons_append, lvs, e3, Nat.add_sub_cancel, hg, List.cons_append]
theorem lvs_walkS : ∀ (ts : List Tm) (d : Nat) (st : List Int) (r : List (Tm × Nat)), 1 ≤ d → d ≤ st.length →
    ∃ st', st'.take d = st.take d ∧ d ≤ st'.length ∧ lvs (walkSM ts d ++ r) st = walkLS ts (st.getD (d - 1) 0) ++ lvs r st'
  | [], d, st, r, h1, hd => ⟨st, rfl, hd, by simp only [walkSM, walkLS, List.nil_append]⟩
  | t :: ts, d, st, r, h1, hd => by
    obtain ⟨st1, e1, e2, e3⟩ := lvs_walk t d st (walkSM ts d ++ r) h1 hd
    obtain ⟨st2, f1, f2, f3⟩ := lvs_walkS ts d st1 r h1 e2
    have hg : st1.getD (d - 1) 0 = st.getD (d - 1) 0 := by
      rw [← getD_take (d := d) (by omega), e1, getD_take (by omega)]
    refine ⟨st2, f1.trans e1, f2, ?_⟩
    rw [walkSM, walkLS, List.append_assoc, e3, f3, List.append_assoc, hg]
end
theorem lvs_all (t : Tm) (l : Int) : lvs (walkM t 1) [l] = walkL t l := by
  obtain ⟨st', _, _, h⟩ := lvs_walk t 1 [l] [] (Nat.le_refl _) (Nat.le_refl _)
  rw [List.append_nil] at h
  rw [h]
  simp [lvs]
def OkL : List (Tm × Nat) → Nat → Prop
  | [], _ => True
  | x :: r, m => 1 ≤ x.2 ∧ x.2 ≤ m ∧ OkL r (x.2 + 1)
mutual
theorem okL_walk : ∀ (t : Tm) (d m : Nat) (r : List (Tm × Nat)), 1 ≤ d → d ≤ m → (∀ m', d ≤ m' → OkL r m') → OkL (walkM t d ++ r) m
  | .mk k a b n t x ts, d, m, r, h1, hd, hr => by
    rw [walkM, List.cons_append]
    exact ⟨h1, hd, okL_walkS ts (d + 1) (d + 1) r (by omega) (Nat.le_refl _) (fun m' h => hr m' (by omega))⟩
theorem okL_walkS : ∀ (ts : List Tm) (d m : Nat) (r : List (Tm × Nat)), 1 ≤ d → d ≤ m → (∀ m', d ≤ m' → OkL r m') → OkL (walkSM ts d ++ r) m
  | [], d, m, r, h1, hd, hr => by rw [walkSM, List.nil_append]; exact hr m hd
  | t :: ts, d, m, r, h1, hd, hr => by
    rw [walkSM, List.append_assoc]
    exact okL_walk t d m _ h1 hd (fun m' h => okL_walkS ts d m' r h1 h hr)
end
theorem okL_at : ∀ (pre : List (Tm × Nat)) (x : Tm) (d : Nat) (r : List (Tm × Nat)) (st : List Int), OkL (pre ++ (x, d) :: r) st.length → 1 ≤ d ∧ d ≤ (stkL st pre).length
  | [], x, d, r, st, h => ⟨h.1, h.2.1⟩
  | (y, e) :: pre, x, d, r, st, h => by
    have h2 := h.2.2
    have hl := pushL_len (t := y) (d := e) (show e ≤ st.length from h.2.1)
    have h3 : OkL (pre ++ (x, d) :: r) (pushL st y e).length := by rw [hl]; exact h2
    exact okL_at pre x d r _ h3
theorem okL_pre {t : Tm} {l : Int} {pre : List (Tm × Nat)} {x : Tm} {d : Nat} (h : pre ++ [(x, d)] <+: walkM t 1) : 1 ≤ d ∧ d ≤ (stkL [l] pre).length := by
  obtain ⟨r, hr⟩ := h
  have h1 := okL_walk t 1 1 [] (Nat.le_refl _) (Nat.le_refl _) (fun _ _ => trivial)
  rw [List.append_nil, ← hr, List.append_assoc] at h1
  exact okL_at pre x d r [l] h1
theorem lvs_pre {t : Tm} {l : Int} {pre : List (Tm × Nat)} (h : pre <+: walkM t 1) : lvs pre [l] <+: walkL t l := by
  obtain ⟨r, hr⟩ := h
  rw [← lvs_all, ← hr, lvs_append]
  exact List.prefix_append _ _
theorem depth_pre {t : Tm} {x : Tm} {d : Nat} (h : (x, d) ∈ walkM t 1) (hn : t.nodes ≤ 2097153) : d ≤ 2097153 := by
  have h1 := maxdM_walk t 1
  have h2 := (maxdM_le (l := walkM t 1) (n := t.depth)).1 (by omega) _ h
  have h3 := t.depth_nodes
  simp only at h2
  omega
theorem At9.keep {w w' : World} {b o : Nat} {t : Tm} {tp rp p : Option Addr} {tc rc c : Nat} (h : At9 w b o t tp tc rp rc p c) (hb : w'.heap[b]? = w.heap[b]?) : At9 w' b o t tp tc rp rc p c := by
  have k : ∀ i, w'.cell? ⟨b, i, none⟩ = w.cell? ⟨b, i, none⟩ := fun i => World.cell?_of_block (a := ⟨b, i, none⟩) hb
  exact ⟨(k _).trans h.kind, (k _).trans h.name, (k _).trans h.other, (k _).trans h.n, (k _).trans h.tk, (k _).trans h.ta, (k _).trans h.rk, (k _).trans h.ra, (k _).trans h.args⟩
def TermAt (w : World) (C : Nat → Prop) (t : Tm) (b o : Nat) : Prop := ∃ (tp : Option Addr) (tc : Nat) (rp : Option Addr) (rc : Nat) (p : Option Addr) (c : Nat), C b ∧ b < w.heap.size ∧ At9 w b o t tp tc rp rc p c ∧ TM' w C t tp tc rp rc p c
theorem TermAt.stays {w w' : World} {C : Nat → Prop} {t : Tm} {b o : Nat} (h : TermAt w C t b o) (hs : Stays C w w') : TermAt w' C t b o := by
  obtain ⟨tp, tc, rp, rc, p, c, h1, h2, h3, h4⟩ := h
  exact ⟨tp, tc, rp, rc, p, c, h1, Nat.lt_of_lt_of_le h2 hs.1, h3.keep (hs.2 b h1 h2), h4.stays hs⟩
def Keep (base : Nat) (B : Nat → Prop) (w w' : World) : Prop := Below base w w' ∧ ∀ b, B b → b < w.heap.size → w'.heap[b]? = w.heap[b]?
theorem Keep.of_below {base : Nat} {B : Nat → Prop} {w w' : World} (hb : base ≤ w.heap.size) (h : Below w.heap.size w w') : Keep base B w w' := ⟨h.mono hb, fun b _ hl => h.block b hl⟩
theorem Keep.mono {base base' : Nat} {B B' : Nat → Prop} {w w' : World} (h : Keep base B w w') (hb : base' ≤ base) (hB : ∀ b, B' b → B b) : Keep base' B' w w' := ⟨h.1.mono hb, fun b hb hl => h.2 b (hB b hb) hl⟩
def Grew (B B' : Nat → Prop) (n m : Nat) : Prop := ∀ b, B' b → (B b ∨ n ≤ b) ∧ b < m
theorem Grew.refl {B : Nat → Prop} {n m : Nat} (h : ∀ b, B b → b < m) : Grew B B n m := fun b hb => ⟨Or.inl hb, h b hb⟩
variable {F : Fence} {n : Nat} {P : Program}
end Go.Proofs.YtfeijijeohfpgaaGreatDoor
namespace Go.Proofs.YtfeijijeohfpgaaGreatDoor
open Go Go.RowKit
def LP (w : World) (C Z : Nat → Prop) (l : List Tm) (v : Value) : Prop := ∃ (q : Option Addr) (c : Nat), v = .slice q l.length c ∧ l.length ≤ c ∧ c ≤ maxLen ∧
  ∀ (j : Nat) (hj : j < l.length), ∃ (g o b1 o1 : Nat), q = some ⟨g, o, none⟩ ∧ Z g ∧ g < w.heap.size ∧ w.cell? ⟨g, o + j, none⟩ = some (.pointer (some ⟨b1, o1, none⟩)) ∧ TermAt w C l[j] b1 o1
theorem LP.stays {w w' : World} {C Z : Nat → Prop} {l : List Tm} {v : Value} (h : LP w C Z l v) (hc : Stays C w w') (hz : Stays Z w w') : LP w' C Z l v := by
  obtain ⟨q, c, h1, h2, h3, h4⟩ := h
  refine ⟨q, c, h1, h2, h3, fun j hj => ?_⟩
  obtain ⟨g, o, b1, o1, e1, e2, e3, e4, e6⟩ := h4 j hj
  exact ⟨g, o, b1, o1, e1, e2, Nat.lt_of_lt_of_le e3 hz.1, (World.cell?_of_block (a := ⟨g, o + j, none⟩) (hz.2 g e2 e3)).trans e4, e6.stays hc⟩
theorem LP.mono {w : World} {C Z Z' : Nat → Prop} {l : List Tm} {v : Value} (h : LP w C Z l v) (hz : ∀ z, Z z → z < w.heap.size → Z' z) : LP w C Z' l v := by
  obtain ⟨q, c, h1, h2, h3, h4⟩ := h
  refine ⟨q, c, h1, h2, h3, fun j hj => ?_⟩
  obtain ⟨g, o, b1, o1, e1, e2, e3, e4, e6⟩ := h4 j hj
  exact ⟨g, o, b1, o1, e1, hz g e2 e3, e3, e4, e6⟩
theorem LP.form {w : World} {C Z : Nat → Prop} {l : List Tm} {v : Value} (h : LP w C Z l v) : ∃ q c, v = .slice q l.length c := by
  obtain ⟨q, c, h1, _⟩ := h
  exact ⟨q, c, h1⟩
theorem LP.open {w : World} {C Z : Nat → Prop} {x : Tm} {l : List Tm} {v : Value} (h : LP w C Z (x :: l) v) :
    ∃ (b o c b1 o1 : Nat), v = .slice (some ⟨b, o, none⟩) (l.length + 1) c ∧ l.length + 1 ≤ c ∧ c ≤ maxLen ∧ Z b ∧ b < w.heap.size ∧ w.cell? ⟨b, o, none⟩ = some (.pointer (some ⟨b1, o1, none⟩)) ∧
      TermAt w C x b1 o1 ∧ ∀ q, (l ≠ [] → q = some ⟨b, o + 1, none⟩) → LP w C Z l (.slice q l.length (c - 1)) := by
  obtain ⟨q, c, rfl, h2, h3, h4⟩ := h
  obtain ⟨b, o, b1, o1, rfl, e2, e3, e4, e6⟩ := h4 0 (by simp)
  simp only [List.length_cons] at h2
  refine ⟨b, o, c, b1, o1, rfl, h2, h3, e2, e3, by simpa using e4, e6, fun q hq => ⟨q, c - 1, rfl, by omega, by omega, fun j hj => ?_⟩⟩
  obtain ⟨b', o', b1', o1', f1, f2, f3, f4, f6⟩ := h4 (j + 1) (by simp; omega)
  simp only [Option.some.injEq, Addr.mk.injEq, and_true] at f1
  obtain ⟨rfl, rfl⟩ := f1
  refine ⟨b, o + 1, b1', o1', hq (fun e => by rw [e] at hj; simp at hj), f2, f3, ?_, by simpa using f6⟩
  rw [show o + 1 + j = o + (j + 1) by omega]; exact f4
theorem infoP : (Tryz.prog.info? 66).map (fun i => (i.zero, i.size, i.bytes)) = some (some (.pointer none), 1, 8) := by kernel_rfl
structure RowP (w : World) (g n : Nat) (P : Nat → Value) (k : Nat) : Prop where
  blk : ∃ cur : Array Value, w.heap[g]? = some (.cells cur 66 (0, 0)) ∧ cur.size = n ∧ ∀ j, j < n → cur[j]? = some (if j < k then P j else .pointer none)
section
variable {w w' : World} {g n k : Nat} {P : Nat → Value}
theorem RowP.lt (h : RowP w g n P k) : g < w.heap.size := by
  obtain ⟨cur, hb, _⟩ := h.blk
  exact (Array.getElem?_eq_some_iff.1 hb).1
theorem RowP.frozen (h : RowP w g n P k) (i : Nat) : w.frozen? ⟨g, i, none⟩ = false := by
  obtain ⟨cur, hb, _⟩ := h.blk
  exact unfrozen_of_blk hb i
theorem RowP.ptr (h : RowP w g n P k) {j : Nat} (hj : j < n) : w.cell? ⟨g, j, none⟩ = some (if j < k then P j else .pointer none) := by
  obtain ⟨cur, hb, _, hc⟩ := h.blk
  rw [cell_of_blk hb]; exact hc j hj
theorem RowP.next (h : RowP w g n P k) : RowP (w.setCell ⟨g, k, none⟩ (P k)) g n P (k + 1) := by
  obtain ⟨cur, h1, h2, h3⟩ := h.blk
  refine ⟨cur.setIfInBounds k (P k), Go.Joins.block_setCell h1 _, by simpa using h2, fun j hj => ?_⟩
  have e1 := h3 j hj
  rw [Array.getElem?_setIfInBounds]
  by_cases e : k = j
  · subst e
    rw [if_pos rfl, if_pos (by omega), if_pos (by omega)]
  · rw [if_neg (by omega), e1]
    by_cases e3 : j < k
    · rw [if_pos e3, if_pos (by omega)]
    · rw [if_neg e3, if_neg (by omega)]
theorem rowP_start {base : Nat} {xs : List Value} (h : w.ownsRow base 66 1 (.slice (some ⟨g, 0, none⟩) n n) n xs) (hx : ∀ j, j < n → xs[j]? = some (.pointer none)) : RowP w g n P 0 := by
  rcases h.2 with ⟨e0, e1⟩ | ⟨g', cap', cur, hv, hg, hblk, h1, h2, h3, h4⟩
  · cases e0
  · simp only [Value.slice.injEq, Option.some.injEq, Addr.mk.injEq, true_and, and_true] at hv
    obtain ⟨rfl, rfl⟩ := hv
    refine ⟨cur, hblk, by simpa using h3, fun j hj => ?_⟩
    have e1 := hx j hj
    rw [← h4, List.getElem?_take, if_pos (by omega), Array.getElem?_toList] at e1
    rw [if_neg (by omega)]
    exact e1
end
theorem zerosP (n j : Nat) (h : j < n) : (madeCells (#[Value.pointer none]) n).toList[j]? = some (.pointer none) := by
  simp [madeCells, h, Nat.mod_one]
def ptrP (p : Option Addr) (j : Nat) : Value := .pointer (match p with | some a => some ⟨a.block, a.off + j * 9, none⟩ | none => none)
theorem lp_fin {C : Nat → Prop} {w wf : World} {t : Tm} {tp rp p : Option Addr} {tc rc c G k : Nat} (hR : RowP wf G k (ptrP p) k) (hG : w.heap.size ≤ G) (hm : k = t.args.length) (hk : k ≤ maxLen)
    (hb : Below w.heap.size w wf) (hT : TM' w C t tp tc rp rc p c) :
    LP wf C (fun z => w.heap.size ≤ z ∧ z < wf.heap.size) t.args (.slice (some ⟨G, 0, none⟩) k k) := by
  subst hm
  refine ⟨_, _, rfl, Nat.le_refl _, hk, fun j hj => ?_⟩
  obtain ⟨b', o', tp', tc', rp', rc', p', c', hp, hC', hb', h9', hx'⟩ := tm_part hT.args j hj
  have hst : Stays C w wf := .of_below hb
  refine ⟨G, 0, b', o' + j * 9, rfl, ⟨hG, hR.lt⟩, hR.lt, ?_, ⟨_, _, _, _, _, _, hC', Nat.lt_of_lt_of_le hb' hb.size, h9' wf hst, hx'.stays hst⟩⟩
  rw [Nat.zero_add, hR.ptr hj, if_pos hj, hp]
  rfl
set_option maxRecDepth 100000 in
set_option maxHeartbeats 4000000 in
theorem partsP_any {C : Nat → Prop} {w : World} {b o : Nat} {t : Tm} (h : TermAt w C t b o) (hn : t.wt ≤ 2097152) :
    Calls Tryz.prog 96 #[.pointer (some ⟨b, o, none⟩)] w fun e w' => ∃ v, e = .returned v ∧ LP w' C (fun z => w.heap.size ≤ z ∧ z < w'.heap.size) t.args v ∧ Below w.heap.size w w' := by
  obtain ⟨i0, hi, hz0, hz1, hz2⟩ := info_parts infoP
  obtain ⟨tp, tc, rp, rc, p, c, hC, hb, h9, hT⟩ := h
  have HT := Lib.hid hT
  have hlen : t.args.length ≤ 2097152 := by have h1 := t.wt_eq; have h2 := wtS_ge t.args; omega
  have k8 := h9.args
  obtain ⟨m, hm⟩ : ∃ m, m = t.args.length := ⟨_, rfl⟩
  rw [← hm] at k8 hlen
  have HM := Lib.hid hm
  have HB := Lib.hid hb
  have HK8 := Lib.hid k8
  clear h9 hT hm
  go_enter Tryz.func96, Tryz.ntmps96
  go_wp2_with (at_make; refine wpList_make_full _ rfl _ _ 163 rfl w.heap.size 66 i0 _ 1 Tryz.underlying163 hi hz0 hz1 .i64 .i64 _ _ m rfl rfl rfl rfl ?c1 ?c2 ?c3 ?_)
  case c1 => rw [hz2]; omega
  case c2 => unfold maxLen; omega
  case c3 => exact Nat.le_refl _
  intro w2 hown0 hg
  have hb2 : Below w.heap.size w w2 := (Below.refl _ _).grown hg (Nat.le_refl _) (fun k h => by cases h)
  have HR0 := Lib.hid (rowP_start (P := ptrP p) hown0 (fun j hj => zerosP m j hj))
  clear hown0 hg
  have HB2 := Lib.hid hb2
  clear hb2
  go_wp2_with fail
  go_loopw [13] (fun i wr => ∃ k : Nat, k ≤ m ∧ i = .int .i64 k ∧ RowP wr w.heap.size m (ptrP p) k ∧ Below w.heap.size w wr) (fun i _ => m - (intOf i).toNat)
  case atStart => exact ⟨0, Nat.zero_le _, rfl, HR0.out, HB2.out⟩
  case round =>
    obtain ⟨k, hk, rfl, hrow, hbr⟩ := hrel
    have HR := Lib.hid hrow
    have HBR := Lib.hid hbr
    clear hrow hbr HR0 HB2
    by_cases hlk : k < m
    · have hka2 : k < t.args.length := by rw [← HM.out]; exact hlk
      obtain ⟨b', o', tp', tc', rp', rc', p', c', rfl, hC', hb', h9', hx'⟩ := tm_part HT.out.args k hka2
      have f0 := HR.out.ptr hlk
      have fz := HR.out.frozen
      have HNX := Lib.hid HR.out.next
      have kr := (HBR.out.cell HB.out).trans HK8.out
      have i0 : (0 : Int) ≤ (k : Int) := Int.natCast_nonneg _
      have i1 : (k : Int) < (m : Int) := by omega
      clear h9' hx' hka2
      go_wp2_with fail
      go_roundw
      case rel => exact ⟨k + 1, by omega, by go_num, HNX.out, HBR.out.setCell (p := ⟨w.heap.size, k, none⟩) (Nat.le_refl _) _⟩
      case measure => simp [intOf]; omega
    · obtain rfl : k = m := by omega
      go_wp2_with fail
      go_ret
      exact ⟨_, rfl, lp_fin HR.out (Nat.le_refl _) HM.out (by unfold maxLen; omega) HBR.out HT.out, HBR.out⟩
end Go.Proofs.YtfeijijeohfpgaaGreatDoor
