/-
  The contracts of the program's copyTypeNode and of what EraseType does at a node.
-/
import Derived.Test.YtjobmgbchpoheaaErase
import Derived.Test.YtjobmgbchpoheaaAid
import Derived.Test.YtjobmgbchpoheaaTyCopy
import Derived.Test.YtjobmgbchpoheaaRowN
import Derived.Test.YtjobmgbchpoheaaNodesT
import Derived.Test.YtjobmgbchpoheaaLoopW
import Derived.Lib.SmallJoins
import Derived.Deep.RegionHeldLaw
namespace Go.Proofs.Ytjobmgbchpoheaa
open Go Go.RowKit

/-- A new row of n places (or none). -/
def Part (W W' : World) (n : Nat) (s' : Value) : Prop := (n = 0 ∧ s' = .slice none 0 0) ∨
  ∃ (b' cc : Nat) (K : Nat → Int) (S : Nat → Value), s' = .slice (some ⟨b', 0, none⟩) n cc ∧ W.heap.size ≤ b' ∧ cc ≤ maxLen ∧ Row W' b' n cc K S
theorem Part.below {W W' W'' : World} {n : Nat} {s' : Value} (h : Part W W' n s') (hb : Below W'.heap.size W' W'') : Part W W'' n s' := by
  rcases h with h | ⟨b', cc, K, S, h1, h2, h3, h4⟩
  · exact Or.inl h
  · exact Or.inr ⟨b', cc, K, S, h1, h2, h3, h4.below hb⟩
theorem Part.base {W W0 W' : World} {n : Nat} {s' : Value} (h : Part W W' n s') (hb : W0.heap.size ≤ W.heap.size) : Part W0 W' n s' := by
  rcases h with h | ⟨b', cc, K, S, h1, h2, h3, h4⟩
  · exact Or.inl h
  · exact Or.inr ⟨b', cc, K, S, h1, Nat.le_trans hb h2, h3, h4⟩
theorem app_empty (p : Option Addr) (c : Nat) (w : World) (ty : TypeId) : (Builtin.append_ #[24, 24] ty #[.slice none 0 0, .slice p 0 c]).run Try.prog w = .ok (.slice none 0 0) w := by
  cases p <;> simp [Builtin.append_, go_sem]
/-- An append of types to no row: a new row with just these. -/
theorem app_types {C : Nat → Prop} {ts : List Ty} {p : Option Addr} {c : Nat} {w : World} (h : TS w C ts (.slice p ts.length c)) (hn : ts.length ≤ 2097152) (ty : TypeId) :
    ∃ s' w', (Builtin.append_ #[24, 24] ty #[.slice none 0 0, .slice p ts.length c]).run Try.prog w = .ok s' w' ∧ Part w w' ts.length s' ∧ Below w.heap.size w w' := by
  by_cases h0 : ts.length = 0
  · rw [h0]
    exact ⟨_, _, app_empty p c w ty, Or.inl ⟨rfl, rfl⟩, Below.refl _ _⟩
  obtain ⟨j0, hj, hy0, hy1, hy2⟩ := info_parts infoTy
  obtain ⟨b, o, p0, c0, rfl, -, -⟩ := h.at 0 ts[0] (List.getElem?_eq_getElem (by omega))
  have hex : ∀ j, ∃ V : Value, j < ts.length → w.cell? ⟨b, o + j * 2, none⟩ = some (.int .i64 (ts[j]?.getD (.mk 0 [])).kind) ∧ w.cell? ⟨b, o + j * 2 + 1, none⟩ = some V ∧ V.oneCell' = true := fun j => by
    by_cases hj2 : j < ts.length
    · obtain ⟨b', o', p', c', hq, hc, _⟩ := h.at j ts[j] (List.getElem?_eq_getElem hj2)
      simp only [Option.some.injEq, Addr.mk.injEq, and_true] at hq
      obtain ⟨rfl, rfl⟩ := hq
      obtain ⟨e1, e2⟩ := hc w (.of_below (Below.refl _ _))
      exact ⟨_, fun _ => ⟨by rw [e1, List.getElem?_eq_getElem hj2]; rfl, e2, rfl⟩⟩
    · exact ⟨undef, fun h => absurd h hj2⟩
  obtain ⟨V, hV⟩ := Classical.axiomOfChoice hex
  have hcell : ∀ i, i < ts.length * 2 → w.cell? ⟨b, o + i, none⟩ = some (if i % 2 = 0 then .int .i64 (ts[i / 2]?.getD (.mk 0 [])).kind else V (i / 2)) ∧ (if i % 2 = 0 then Value.int .i64 (ts[i / 2]?.getD (.mk 0 [])).kind else V (i / 2)).oneCell' = true := fun i hi => by
    obtain ⟨h1, h2, h3⟩ := hV (i / 2) (by omega)
    by_cases he : i % 2 = 0
    · rw [if_pos he]
      rw [show o + i = o + i / 2 * 2 by omega]
      exact ⟨h1, rfl⟩
    · rw [if_neg he]
      rw [show o + i = o + i / 2 * 2 + 1 by omega]
      exact ⟨h2, h3⟩
  obtain ⟨s', w', hr, ho, hg, hwh⟩ := run_app (P := Try.prog) w.heap.size 24 ty 26 j0 _ 2 _ Try.underlying24 hj hy0 hy1 hy2 rfl (by decide)
    (.slice none 0 0) 0 [] (World.ownsRow_nil w _ _ _) ⟨b, o, none⟩ ts.length c ((List.range (ts.length * 2)).map fun i => if i % 2 = 0 then Value.int .i64 (ts[i / 2]?.getD (.mk 0 [])).kind else V (i / 2)) (by simp) (fun j u hu => by
      rw [List.getElem?_map, Option.map_eq_some_iff] at hu
      obtain ⟨i, hi, rfl⟩ := hu
      have hlt := (List.getElem?_eq_some_iff.1 hi).1
      rw [List.length_range] at hlt
      rw [List.getElem?_range hlt] at hi
      obtain rfl := Option.some.inj hi
      rw [show ((⟨b, o, none⟩ : Addr).add j) = ⟨b, o + j, none⟩ by unfold Addr.add; split <;> simp_all]
      exact (hcell _ hlt).1) (fun u hu => by
      obtain ⟨i, hi, rfl⟩ := List.mem_map.1 hu
      exact (hcell i (List.mem_range.1 hi)).2) (by unfold maxLen; omega) (by omega) (Nat.le_refl _)
  have hbel : Below w.heap.size w w' := (Below.refl _ _).grown hg (Nat.le_refl _) (fun k hk => by cases hk)
  rw [Nat.zero_add] at ho
  have hx : ∀ j, j < ts.length → ([] ++ (List.range (ts.length * 2)).map fun i => if i % 2 = 0 then Value.int .i64 (ts[i / 2]?.getD (.mk 0 [])).kind else V (i / 2))[j * 2]? = some (.int .i64 (ts[j]?.getD (.mk 0 [])).kind) ∧ ([] ++ (List.range (ts.length * 2)).map fun i => if i % 2 = 0 then Value.int .i64 (ts[i / 2]?.getD (.mk 0 [])).kind else V (i / 2))[j * 2 + 1]? = some (V j) := fun j hj2 => by
    simp only [List.nil_append, List.getElem?_map]
    rw [List.getElem?_range (by omega), List.getElem?_range (by omega)]
    simp only [Option.map_some]
    rw [if_pos (by omega), if_neg (by omega), show j * 2 / 2 = j by omega, show (j * 2 + 1) / 2 = j by omega]
    exact ⟨rfl, rfl⟩
  obtain ⟨hl, h1 | ⟨g, cap, cur, rfl, hgb, rest⟩⟩ := ho
  · exact absurd h1.2 h0
  · obtain ⟨r1, r2, r3⟩ := Row.of_owns (w := w') (base := w.heap.size) (g := g) (cap := cap) (n := ts.length) ⟨hl, Or.inr ⟨g, cap, cur, rfl, hgb, rest⟩⟩ hx
    exact ⟨_, w', hr, Or.inr ⟨g, cap, _, _, rfl, r2, r3, r1⟩, hbel⟩
theorem step_run {P : Program} {w w' : World} {ops : Array Oper} {o : Oper} {a : Act} {K : Act → World → Prop} {Q : Exit → Act → World → Prop} {E : Prop} {t : TypeId} {vs vx v' : Value} (hgd : o.guard = none) (s x : Operand)
    (ho : o.op = .call { callee := .builtin .append, args := #[s, x], argTypes := #[t, t] }) (hs : a.eval s = vs) (hx : a.eval x = vx) (hrun : (Builtin.append_ #[t, t] o.type #[vs, vx]).run P w = .ok v' w')
    (h : K (a.put o.dst v') w') : if Region.wanted o (yielded ops a.tmps) = true then Oper.wp P o a w K Q else E := by
  have hw : Region.wanted o (yielded ops a.tmps) = true := by simp [Region.wanted, hgd]
  rw [if_pos hw]
  unfold Oper.wp
  simp [execOp, ho, resolve, invoke, builtin, hs, hx, hrun, Result.andThen]
  exact h

def NodeRet (y : Ty) (p : Option Addr) (c : Nat) (W : World) (e : Ending) (W' : World) : Prop :=
  ∃ s', e = .returned (.tuple #[.agg #[.int .i64 y.kind, s'], .slice p y.args.length c]) ∧ Part W W' y.args.length s' ∧ Below W.heap.size W W'
theorem part_slice {W W' : World} {n : Nat} {s' : Value} (h : Part W W' n s') : ∃ p' c', s' = .slice p' n c' := by
  rcases h with ⟨rfl, rfl⟩ | ⟨b', cc, _, _, rfl, _⟩
  · exact ⟨_, _, rfl⟩
  · exact ⟨_, _, rfl⟩
theorem set2_below {B b i j : Nat} {W W' : World} {u v : Value} (h : Below B W W') (hb : B ≤ b) : Below B W ((W'.setCell ⟨b, i, none⟩ u).setCell ⟨b, j, none⟩ v) :=
  (h.setCell (p := ⟨b, i, none⟩) hb u).setCell (p := ⟨b, j, none⟩) hb v
theorem results_ct {fn : Func} {p q : Tmp} {ty : TypeId} (h : fn.results = #[.cell p ty, .tmp q]) (tmps : Array Value) (P : Program) (w : World) :
    (results fn tmps).run P w = ((asAddr (tmps.getD p undef)).run P w).andThen fun a w₁ => ((loadVar ty a).run P w₁).andThen fun v w₂ => .ok (.tuple #[v, tmps.getD q undef]) w₂ := by
  simp only [results, h]
  simp [Sem.run_bind, Result.andThen]
theorem part_set {w0 w W : World} {n b i j : Nat} {s' u v : Value} (h : Part w0 W n s') (hw : w.heap.size ≤ w0.heap.size) (hb : b < w0.heap.size) : Part w ((W.setCell ⟨b, i, none⟩ u).setCell ⟨b, j, none⟩ v) n s' := by
  rcases h with h | ⟨b', cc, K, S, h1, h2, h3, h4⟩
  · exact Or.inl h
  · refine Or.inr ⟨b', cc, K, S, h1, by omega, h3, h4.of_block ?_⟩
    rw [Below.heap_setCell _ _ _ _ (by show b' ≠ b; omega), Below.heap_setCell _ _ _ _ (by show b' ≠ b; omega)]
set_option maxRecDepth 100000 in
set_option maxHeartbeats 2000000 in
theorem copyN_any {C : Nat → Prop} {y : Ty} {p : Option Addr} {c : Nat} {w : World} (h : TS w C y.args (.slice p y.args.length c)) (hn : y.args.length ≤ 2097152) :
    Calls Try.prog 36 #[.agg #[.int .i64 y.kind, .slice p y.args.length c]] w (NodeRet y p c w) := by
  obtain ⟨w0, hw0, hs0, hb0, r0, r1⟩ := box_new2 w #[.int .i64 y.kind, .slice p y.args.length c] #[.int .i64 0, .slice none 0 0] 26 26
  obtain ⟨s', w', hrun, hpart, hbel⟩ := app_types (h.keep (hb0.drew)) hn 24
  obtain ⟨p', c', rfl⟩ := part_slice hpart
  have b0 := cell_of_blk r0 0
  have b1 := cell_of_blk r0 1
  have HP := Lib.hid hpart
  have HB := Lib.hid (hb0.drew.trans (hbel.mono hb0.drew.size))
  have hr0' : w'.heap[w.heap.size]? = _ := (hbel.block w.heap.size (by show w.heap.size < w0.heap.size; omega)).trans r0
  have hr1' : w'.heap[w.heap.size + 1]? = _ := (hbel.block (w.heap.size + 1) (by show w.heap.size + 1 < w0.heap.size; omega)).trans r1
  have e0 := cell_of_blk hr0' 0
  have e1 := cell_of_blk hr0' 1
  have d0 := cell_of_blk hr1' 0
  have d1 := cell_of_blk hr1' 1
  have dz := unfrozen_of_blk hr1'
  simp only [List.getElem?_toArray, List.getElem?_cons_zero, List.getElem?_cons_succ] at b0 b1 e0 e1 d0 d1
  have HS := Lib.hid (And.intro hs0 hr1')
  clear h hpart hbel hb0 r0 r1 hr0' hr1' hs0
  go_enter Try.func36, Try.ntmps36
  go_wp2_with fail
  go_region_law (first | (refine step_run rfl (.const (.slice none 0 0)) (.tmp 7) rfl rfl rfl hrun ?_))
  all_goals
    go_wp2_with fail
    refine bodyPost_ret (v := .tuple #[.agg #[.int .i64 y.kind, .slice p' y.args.length c'], .slice p y.args.length c]) ?_ rfl ?_
    · rw [results_ct rfl]
      go_simp
    · exact ⟨_, rfl, part_set HP.out (by show w.heap.size ≤ w0.heap.size; have := HS.out.1; omega) (by show w.heap.size + 1 < w0.heap.size; have := HS.out.1; omega), set2_below HB.out (by omega)⟩
/-- What EraseType does at a node: it passes over code, and copies the node that it finds. -/
def EraseRet (x : Ty) (W0 W : World) (C : Nat → Prop) (e : Ending) (W' : World) : Prop :=
  ∃ (y : Ty) (p : Option Addr) (c : Nat) (s' : Value), e = .returned (.tuple #[.agg #[.int .i64 y.kind, s'], .slice p y.args.length c]) ∧ x.erase = .mk y.kind (y.args.map Ty.erase) ∧ y.nodes ≤ x.nodes ∧ TS W0 C y.args (.slice p y.args.length c) ∧ Part W W' y.args.length s' ∧ Below W.heap.size W W'
set_option maxRecDepth 100000 in
set_option maxHeartbeats 2000000 in
theorem erN_any {C : Nat → Prop} {x : Ty} {p : Option Addr} {c : Nat} {w0' w : World} (hw0' : Below w0'.heap.size w0' w) (h : TS w0' C x.args (.slice p x.args.length c)) (hn : x.nodes ≤ 2097153) :
    Calls Try.prog 34 #[.agg #[.int .i64 x.kind, .slice p x.args.length c]] w (EraseRet x w0' w C) := by
  obtain ⟨w0, hw0, hs0, hb0, r0, r1⟩ := box_new2 w #[.int .i64 x.kind, .slice p x.args.length c] #[.int .i64 0, .slice none 0 0] 26 26
  have HT := Lib.hid h
  have HWW' := Lib.hid hw0'
  have HN := Lib.hid hn
  have H0 := Lib.hid (And.intro hs0 (And.intro hb0 (And.intro r0 r1)))
  clear h hs0 hb0 r0 r1 hn hw0'
  go_enter Try.func34, Try.ntmps34
  go_wp2_with fail
  go_loopg [] x.nodes (fun gk wr => ∃ (y : Ty) (py : Option Addr) (cy : Nat), gk = y.nodes ∧ y.nodes ≤ x.nodes ∧ y.erase = x.erase ∧ TS w0' C y.args (.slice py y.args.length cy) ∧ wr.heap[w.heap.size]? = some (.cells #[.int .i64 y.kind, .slice py y.args.length cy] 26 (0, 0)) ∧ wr.heap[w.heap.size + 1]? = some (.cells #[.int .i64 0, .slice none 0 0] 26 (0, 0)) ∧ Below w.heap.size w wr)
  case atStart =>
    obtain ⟨hs0, hb0, r0, r1⟩ := H0.out
    exact ⟨x, p, c, rfl, Nat.le_refl _, rfl, HT.out, r0, r1, hb0⟩
  case round =>
    clear H0 hw0
    obtain ⟨y, py, cy, rfl, hyx, hye, hty, hby, hby1, hbw⟩ := hrel
    have y0 := cell_of_blk hby 0
    have y1 := cell_of_blk hby 1
    have yz := unfrozen_of_blk hby
    simp only [List.getElem?_toArray, List.getElem?_cons_zero, List.getElem?_cons_succ] at y0 y1
    have hly := hty.len
    have HC := Lib.hid (isCode_any (C := C) (t := y) (w := wr) ⟨_, rfl, hty.keep (HWW'.out.trans (hbw.mono HWW'.out.size))⟩)
    have HBY := Lib.hid hby
    have HBY1 := Lib.hid hby1
    have HBW := Lib.hid hbw
    have HTY := Lib.hid hty
    have HYE := Lib.hid hye
    clear hby hby1 hbw hty hye
    go_wp2_with fail
    refine HC.out.mono ?_
    rintro e w1 ⟨r, hr, rfl, hb2⟩
    have HBY2 := Lib.hid ((hb2.block _ (Array.getElem?_eq_some_iff.1 HBY.out).1).trans HBY.out)
    have HBY3 := Lib.hid ((hb2.block _ (Array.getElem?_eq_some_iff.1 HBY1.out).1).trans HBY1.out)
    have HB2 := Lib.hid (HBW.out.trans (hb2.mono HBW.out.size))
    have HR := Lib.hid hr
    clear y0 y1 yz hr hb2 HBY HBY1 HC
    have y0 := cell_of_blk HBY2.out 0
    have y1 := cell_of_blk HBY2.out 1
    have yz := unfrozen_of_blk HBY2.out
    simp only [List.getElem?_toArray, List.getElem?_cons_zero, List.getElem?_cons_succ] at y0 y1
    cases r with
    | true =>
      obtain ⟨z, hz1, hz2⟩ := erase_code HR.out.symm
      obtain ⟨b2, o2, p', c', rfl, hcs, hTz⟩ := HTY.out.at 0 z (by rw [hz1]; rfl)
      obtain ⟨f1, f2⟩ := hcs w1 (Stays.of_below (HWW'.out.trans (HB2.out.mono HWW'.out.size)))
      have hl1 : y.args.length = 1 := by rw [hz1]; rfl
      have HZ1 := Lib.hid hz1
      have HZ2 := Lib.hid hz2
      have HTZ := Lib.hid hTz
      have hblk : ((w1.setCell ⟨w.heap.size, 0, none⟩ (.int .i64 z.kind)).setCell ⟨w.heap.size, 1, none⟩ (.slice p' z.args.length c')).heap[w.heap.size]? = some (.cells #[.int .i64 z.kind, .slice p' z.args.length c'] 26 (0, 0)) := by
        rw [Go.Joins.block_setCell (Go.Joins.block_setCell HBY2.out _)]
        rfl
      have hblk1 : ((w1.setCell ⟨w.heap.size, 0, none⟩ (.int .i64 z.kind)).setCell ⟨w.heap.size, 1, none⟩ (.slice p' z.args.length c')).heap[w.heap.size + 1]? = some (.cells #[.int .i64 0, .slice none 0 0] 26 (0, 0)) := by
        rw [Below.heap_setCell _ _ _ _ (by show w.heap.size + 1 ≠ w.heap.size; omega), Below.heap_setCell _ _ _ _ (by show w.heap.size + 1 ≠ w.heap.size; omega)]
        exact HBY3.out
      have HBLK := Lib.hid hblk
      have HBLK1 := Lib.hid hblk1
      simp only [Nat.zero_mul, Nat.add_zero] at f1 f2
      clear hz1 hz2 hcs hTz hblk hblk1
      go_wp2_with fail
      go_roundg z.nodes
      case rel =>
        have h1 := nodesS_at y.args 0 (by omega)
        have h2 := y.nodes_eq
        have h3 := z.nodes_eq
        have h4 : y.args[0]'(by omega) = z := by simp [HZ1.out]
        rw [h4] at h1
        exact ⟨z, p', c', rfl, by omega, HZ2.out.symm.trans HYE.out, HTZ.out, HBLK.out, HBLK1.out, set2_below HB2.out (Nat.le_refl _)⟩
      case measure =>
        have h1 := nodesS_at y.args 0 (by omega)
        have h2 := y.nodes_eq
        have h3 := z.nodes_eq
        have h4 : y.args[0]'(by omega) = z := by simp [HZ1.out]
        rw [h4] at h1
        omega
    | false =>
      have HNODE := Lib.hid (erase_node HR.out.symm)
      have HC2 := Lib.hid (copyN_any (y := y) (HTY.out.keep (HWW'.out.trans (HB2.out.mono HWW'.out.size))) (by have := nodesS_ge y.args; have := y.nodes_eq; have := HN.out; omega))
      go_wp2_with fail
      refine HC2.out.mono ?_
      rintro e w2 ⟨s', rfl, hpart, hb3⟩
      obtain ⟨p', c', rfl⟩ := part_slice hpart
      have hlt := (Array.getElem?_eq_some_iff.1 HBY3.out).1
      have hq := (hb3.block _ hlt).trans HBY3.out
      have q0 := cell_of_blk hq 0
      have q1 := cell_of_blk hq 1
      have qz := unfrozen_of_blk hq
      simp only [List.getElem?_toArray, List.getElem?_cons_zero, List.getElem?_cons_succ] at q0 q1
      have HP := Lib.hid hpart
      have HB3 := Lib.hid (HB2.out.trans (hb3.mono HB2.out.size))
      clear hpart hb3 y0 y1 yz hq
      go_wp2_with fail
      refine bodyPost_ret (v := .tuple #[.agg #[.int .i64 y.kind, .slice p' y.args.length c'], .slice py y.args.length cy]) ?_ rfl ?_
      · rw [results_ct rfl]
        go_simp
      · exact ⟨y, py, cy, _, rfl, by rw [← HYE.out, HNODE.out], hyx, HTY.out, part_set HP.out HB2.out.size hlt, set2_below HB3.out (by omega)⟩
end Go.Proofs.Ytjobmgbchpoheaa

