/-
  The program's iterator over the nodes of a type: each node with its depth, a node before its parts, the last part first.
-/
import Derived.Test.YtgeliljanljmmaaRangeT
import Derived.Test.YtgeliljanljmmaaRowN
import Derived.Test.YtgeliljanljmmaaKind2
import Derived.RangeFuncNested
import Derived.RangeFuncBound
import Derived.RangeFuncCalls
import Derived.Shelf.Abstract
import Derived.IntWalk
import Derived.Shelf.RegionOpen
import Derived.WalkKit
import Derived.TacticsInMore
import Derived.LoopNIn
import Derived.LoopIn
import Derived.Sort.LoopGhostIn
namespace Go.Proofs.Ytgeliljanljmmaa
open Go Go.RowKit Go.Shelf
attribute [local go_sem] Oper.semAt_some

mutual
/-- The nodes in the order of the visit. -/
def walkT : Ty → Nat → List (Ty × Nat)
  | .mk k ts, d => (.mk k ts, d) :: walkS ts (d + 1)
def walkS : List Ty → Nat → List (Ty × Nat)
  | [], _ => []
  | t :: ts, d => walkS ts d ++ walkT t d
end
theorem walkT_eq (t : Ty) (d : Nat) : walkT t d = (t, d) :: walkS t.args (d + 1) := by cases t; rfl
/-- What waits, the next one last: a node, its slice's value, its depth. -/
abbrev Wait := List (Ty × Value × Nat)
def stWalk (st : Wait) : List (Ty × Nat) := st.reverse.flatMap fun e => walkT e.1 e.2.2
theorem stWalk_snoc (st : Wait) (e : Ty × Value × Nat) : stWalk (st ++ [e]) = walkT e.1 e.2.2 ++ stWalk st := by simp [stWalk]
theorem stWalk_nil : stWalk [] = [] := rfl
theorem walkS_snoc (ts : List Ty) (t : Ty) (d : Nat) : walkS (ts ++ [t]) d = walkT t d ++ walkS ts d := by
  induction ts with
  | nil => simp [walkS]
  | cons x ts ih => simp only [List.cons_append, walkS, ih, List.append_assoc]
mutual
theorem walkT_length : ∀ (t : Ty) (d : Nat), (walkT t d).length = t.nodes
  | .mk k ts, d => by simp only [walkT, List.length_cons, walkS_length ts, Ty.nodes]; omega
theorem walkS_length : ∀ (ts : List Ty) (d : Nat), (walkS ts d).length = nodesS ts
  | [], d => by simp [walkS, nodesS]
  | t :: ts, d => by simp only [walkS, List.length_append, walkS_length ts, walkT_length t, nodesS]; omega
end
theorem flat_length_ge (l : Wait) : l.length ≤ (l.flatMap fun e => walkT e.1 e.2.2).length := by
  induction l with
  | nil => simp
  | cons e l ih =>
    have := e.1.nodes_eq
    simp only [List.flatMap_cons, List.length_append, walkT_length, List.length_cons]
    omega
theorem stWalk_length_ge (st : Wait) : st.length ≤ (stWalk st).length := by
  have := flat_length_ge st.reverse
  rw [List.length_reverse] at this
  exact this

/-- The cells of what waits. -/
def wcells (st : Wait) : List Value := st.flatMap fun e => [.int .i64 e.1.kind, e.2.1, .int .i64 e.2.2]
theorem wcells_length (st : Wait) : (wcells st).length = st.length * 3 := by
  induction st with
  | nil => rfl
  | cons e st ih => simp only [wcells, List.flatMap_cons, List.length_append, List.length_cons, List.length_nil] at *; omega
theorem wcells_snoc (st : Wait) (e : Ty × Value × Nat) : wcells (st ++ [e]) = wcells st ++ [.int .i64 e.1.kind, e.2.1, .int .i64 e.2.2] := by simp [wcells]
theorem wcells_take (st : Wait) (e : Ty × Value × Nat) : (wcells (st ++ [e])).take (st.length * 3) = wcells st := by
  rw [wcells_snoc, ← wcells_length, List.take_left]
theorem wcells_last (st : Wait) (e : Ty × Value × Nat) : (wcells (st ++ [e]))[st.length * 3]? = some (.int .i64 e.1.kind) ∧ (wcells (st ++ [e]))[st.length * 3 + 1]? = some e.2.1 ∧ (wcells (st ++ [e]))[st.length * 3 + 2]? = some (.int .i64 e.2.2) := by
  have h := wcells_length st
  rw [wcells_snoc]
  refine ⟨?_, ?_, ?_⟩
  · rw [List.getElem?_append_right (by omega), h]; simp
  · rw [List.getElem?_append_right (by omega), h]; simp
  · rw [List.getElem?_append_right (by omega), h]; simp

theorem infoPl : (Try.prog.info? 87).map (fun i => (i.zero, i.size, i.bytes)) = some (some (.agg #[.int .i64 0, .slice none 0 0, .int .i64 0]), 3, 40) := by kernel_rfl

theorem snoc_cases {α : Type} (l : List α) : l = [] ∨ ∃ l0 e, l = l0 ++ [e] := by
  rcases List.eq_nil_or_concat l with h | ⟨l0, e, h⟩
  · exact Or.inl h
  · exact Or.inr ⟨l0, e, by rw [h, List.concat_eq_append]⟩

/-- What the iterator knows between two rounds. -/
structure Mid (W wr : World) (C : Nat → Prop) (dmax : Nat) (J : List (Ty × Nat) → World → Prop) (pre : List (Ty × Nat)) (st : Wait) (g cap : Nat) : Prop where
  own : wr.ownsRow W.heap.size 87 3 (.slice (some ⟨g, 0, none⟩) st.length cap) st.length (wcells st)
  j : J pre wr
  ts : ∀ e ∈ st, TS W C e.1.args e.2.1 ∧ e.2.2 + e.1.depth ≤ dmax
  stays : Stays C W wr
  size : W.heap.size ≤ wr.heap.size

theorem Mid.next {W wr wr' : World} {C : Nat → Prop} {dmax : Nat} {J : List (Ty × Nat) → World → Prop} {pre : List (Ty × Nat)} {st : Wait} {g cap : Nat} (h : Mid W wr C dmax J pre st g cap)
    (hJ : ∀ pre A B, J pre A → Below W.heap.size A B → J pre B) (hb : Below wr.heap.size wr wr') : Mid W wr' C dmax J pre st g cap :=
  ⟨row_below h.own hb, hJ _ _ _ h.j (hb.mono h.size), h.ts, h.stays.trans (.of_below hb), Nat.le_trans h.size hb.size⟩

/-- A part of a slice of types, in every world that keeps the blocks. -/
theorem TS.at {w0 : World} {C : Nat → Prop} {ts : List Ty} {p : Option Addr} {n c : Nat} (h : TS w0 C ts (.slice p n c)) : ∀ (j : Nat) (x : Ty), ts[j]? = some x → ∃ (b o : Nat) (p' : Option Addr) (c' : Nat), p = some ⟨b, o, none⟩ ∧
    (∀ w', Stays C w0 w' → w'.cell? ⟨b, o + j * 2, none⟩ = some (.int .i64 x.kind) ∧ w'.cell? ⟨b, o + j * 2 + 1, none⟩ = some (.slice p' x.args.length c')) ∧ TS w0 C x.args (.slice p' x.args.length c') := by
  have key := TS.ind (motive := fun ts v => ∀ (p : Option Addr) (n c : Nat), v = .slice p n c → ∀ (j : Nat) (x : Ty), ts[j]? = some x → ∃ (b o : Nat) (p' : Option Addr) (c' : Nat), p = some ⟨b, o, none⟩ ∧
    (∀ w', Stays C w0 w' → w'.cell? ⟨b, o + j * 2, none⟩ = some (.int .i64 x.kind) ∧ w'.cell? ⟨b, o + j * 2 + 1, none⟩ = some (.slice p' x.args.length c')) ∧ TS w0 C x.args (.slice p' x.args.length c')) (fun ts p c _ H p2 n2 c2 e j x hj => by
      obtain ⟨b, o, p', c', hp, hc, hT, _⟩ := H j x hj
      simp only [Value.slice.injEq] at e
      exact ⟨b, o, p', c', e.1 ▸ hp, hc, hT⟩) h
  exact key p n c rfl

theorem Mid.below {W wr wr' : World} {C : Nat → Prop} {dmax : Nat} {J : List (Ty × Nat) → World → Prop} {pre : List (Ty × Nat)} {st st' : Wait} {g cap g' cap' : Nat} (h : Mid W wr C dmax J pre st g cap)
    (hJ : ∀ pre A B, J pre A → Below W.heap.size A B → J pre B) (hC : ∀ b, C b → b < W.heap.size) (hb : Below W.heap.size wr wr')
    (hown : wr'.ownsRow W.heap.size 87 3 (.slice (some ⟨g', 0, none⟩) st'.length cap') st'.length (wcells st')) (hts : ∀ e ∈ st', TS W C e.1.args e.2.1 ∧ e.2.2 + e.1.depth ≤ dmax) : Mid W wr' C dmax J pre st' g' cap' :=
  ⟨hown, hJ _ _ _ h.j hb, hts, h.stays.trans ⟨hb.size, fun b hc _ => hb.block b (hC b hc)⟩, Nat.le_trans h.size hb.size⟩

theorem depth_part {ts : List Ty} {j : Nat} {x : Ty} (h : ts[j]? = some x) : x.depth ≤ depthS ts := by
  induction ts generalizing j with
  | nil => simp at h
  | cons t ts ih =>
    cases j with
    | zero => simp at h; subst h; simp only [depthS]; omega
    | succ j => have := ih (by simpa using h); simp only [depthS]; omega

set_option maxRecDepth 100000 in
set_option maxHeartbeats 2000000 in
theorem nodes_it (l Bt : Nat) (t : Ty) (s : Value) (Cb C : Nat → Prop) (W : World) (J Jx : List (Ty × Nat) → World → Prop)
    (hBt0 : W.cell? ⟨Bt, 0, none⟩ = some (.int .i64 t.kind)) (hBt1 : W.cell? ⟨Bt, 1, none⟩ = some s) (hT : TS W C t.args s) (hn : nodesS t.args ≤ 1048576)
    (hCb : ∀ b, Cb b → b < W.heap.size) (hC : ∀ b, C b → ¬ Cb b ∧ b < W.heap.size)
    (hJ : ∀ pre A B, J pre A → Below W.heap.size A B → J pre B)
    (hY : ∀ pre x sx d W1, J pre W1 → pre ++ [(x, d)] <+: walkT t 1 → TS W1 C x.args sx → YieldAt Fence.wide 0 Try.prog l #[.agg #[.int .i64 x.kind, sx], .int .i64 (d : Nat)] W1 fun e W' =>
      (e = .returned (.bool true) ∧ J (pre ++ [(x, d)]) W' ∧ Holds Cb W1 W') ∨ (e = .returned (.bool false) ∧ Jx (pre ++ [(x, d)]) W'))
    (h0 : J [] W) :
    CallsIn Fence.wide 1 Try.prog 55 #[.func (.yield l) #[] #[], .pointer (some ⟨Bt, 0, none⟩)] W fun e W' =>
      (∃ v, e = .returned v) ∧ (J (walkT t 1) W' ∨ ∃ pre, pre <+: walkT t 1 ∧ Jx pre W') := by
  obtain ⟨i0, hi, hz0, hz1, hz2⟩ := info_parts infoPl
  obtain ⟨p, c, rfl⟩ := hT.form
  have HT := Lib.hid hT
  have HY := Lib.hid hY
  have HJ := Lib.hid hJ
  have HJ0 := Lib.hid h0
  have HCb := Lib.hid hCb
  have HC := Lib.hid hC
  have hnd := t.depth_nodes
  have hnn := t.nodes_eq
  clear hT hY hJ h0 hCb hC
  refine callsIn_of_wp Try.func55 rfl trivial ?_ rfl
  simp only [Try.ntmps55, List.size_toArray, List.length_cons, List.length_nil, Nat.reduceAdd, Nat.reduceSub, Array.replicate_succ, Array.replicate_zero, List.push_toArray, List.append_toArray, List.nil_append, List.cons_append]
  gi_wp2
  gi_loopg [3] (walkT t 1).length (fun k v wr => ∃ (pre : List (Ty × Nat)) (st : Wait) (g cap : Nat), v = .slice (some ⟨g, 0, none⟩) st.length cap ∧ k = (stWalk st).length ∧ pre ++ stWalk st = walkT t 1 ∧ Mid W wr C (1 + t.depth) J pre st g cap)
  case atStart =>
    refine ⟨[], [(t, .slice p t.args.length c, 1)], W.heap.size, 1, rfl, by simp [stWalk], by simp [stWalk], ?_, ?_, ?_, ?_, ?_⟩
    · exact World.ownsRow_lit W #[.int .i64 t.kind, .slice p t.args.length c, .int .i64 1] 1 (Nat.le_refl _) (by unfold maxLen; omega) rfl
    · exact HJ.out _ _ _ HJ0.out ((Below.refl _ _).alloc (Nat.le_refl _) _)
    · intro e he
      simp only [List.mem_singleton] at he
      subst he
      exact ⟨HT.out, Nat.le_refl _⟩
    · exact .of_below ((Below.refl _ _).alloc (Nat.le_refl _) _)
    · simp
  case round =>
    rename World => wo
    obtain ⟨pre, st, g, cap, rfl, rfl, hord, hM⟩ := hrel
    rcases snoc_cases st with rfl | ⟨st0, e, rfl⟩
    · have HM := Lib.hid hM
      have HO := Lib.hid hord
      clear hM hord
      gi_wp2
      go_end0
      have hp : pre = walkT t 1 := by have := HO.out; simpa [stWalk] using this
      exact ⟨⟨_, rfl⟩, .inl (hp ▸ HM.out.j)⟩
    · obtain ⟨x, sx, d⟩ := e
      obtain ⟨hTx, hdx⟩ := hM.ts (x, sx, d) (by simp)
      simp only at hTx hdx
      obtain ⟨p1, c1, rfl⟩ := hTx.form
      have hlen : (st0 ++ [((x, Value.slice p1 x.args.length c1, d) : Ty × Value × Nat)]).length = st0.length + 1 := by simp
      have hown := hM.own
      rw [hlen] at hown
      rw [hlen]
      obtain ⟨hcap1, hcap2, hg1, hg2⟩ := row_cap hown
      have k0 := (hown.cellAt (st0.length * 3) (by omega)).trans (wcells_last st0 _).1
      have k1 := (hown.cellAt (st0.length * 3 + 1) (by omega)).trans (wcells_last st0 _).2.1
      have k2 := (hown.cellAt (st0.length * 3 + 2) (by omega)).trans (wcells_last st0 _).2.2
      simp only at k0 k1 k2
      unfold maxLen at hcap2
      have hb0 := (Below.refl wo.heap.size wo).alloc (Nat.le_refl _) (.cells #[.int .i64 x.kind, .slice p1 x.args.length c1, .int .i64 d] 87)
      have hM1 := hM.next HJ.out hb0
      have hpre : pre ++ [(x, d)] <+: walkT t 1 := ⟨walkS x.args (d + 1) ++ stWalk st0, by rw [← hord, stWalk_snoc, walkT_eq]; simp⟩
      obtain ⟨fn, tmps, assign, body, hy, hR⟩ := HY.out pre x (.slice p1 x.args.length c1) d _ hM1.j hpre (hTx.stays hM1.stays)
      have HR := Lib.hid hR
      have HM := Lib.hid hM
      have HM1 := Lib.hid hM1
      have HO := Lib.hid hord
      have HTX := Lib.hid hTx
      have HOWN := Lib.hid hown
      have HB0 := Lib.hid hb0
      have hdx' : d + x.depth ≤ 1 + t.depth ∧ d ≤ 1048578 := ⟨hdx, by omega⟩
      have hd2 : d ≤ 1048578 := hdx'.2
      have HP := Lib.hid hpre
      clear hM hord hTx hown hb0 hM1 hpre hR hBt0 hBt1 hdx hnd hnn
      have HD := Lib.hid hdx'
      have HC1 := Lib.hid (fun b (h : C b) => (HC.out b h).2)
      clear hdx'
      gi_wp2_with fail
      refine HR.out.mono ?_
      rintro e W3 (⟨rfl, hJ3, hH3⟩ | ⟨rfl, hJx3⟩)
      · have hbb : W3.heap[wo.heap.size]? = some (.cells #[.int .i64 x.kind, .slice p1 x.args.length c1, .int .i64 d] 87 (0, 0)) := by
          rw [hH3.2 _ (by simp) (fun hc => by have h1 := HCb.out _ hc; have h2 := HM.out.size; omega)]
          exact blk_new _ _
        have hown3 : W3.ownsRow W.heap.size 87 3 (.slice (some ⟨g, 0, none⟩) st0.length cap) st0.length (wcells st0) := by
          have h1 := row_of_block (row_below HOWN.out HB0.out) (hH3.2 g (by simp; omega) (fun hc => by have h1 := HCb.out _ hc; omega))
          have h2 := row_take h1 (Nat.le_succ _)
          rw [wcells_take] at h2
          exact h2
        have hM3 : Mid W W3 C (1 + t.depth) J (pre ++ [(x, d)]) st0 g cap :=
          ⟨hown3, hJ3, fun e he => HM.out.ts e (List.mem_append_left _ he), HM1.out.stays.trans ⟨hH3.1, fun b hc hl => hH3.2 b hl (HC.out b hc).1⟩, Nat.le_trans HM1.out.size hH3.1⟩
        have c1' := cell_of_blk hbb 1
        simp only [List.getElem?_toArray, List.getElem?_cons_zero, List.getElem?_cons_succ] at c1'
        have HM3 := Lib.hid hM3
        have hgne : g ≠ wo.heap.size := by omega
        have hxl := (show x.args.length ≤ 9223372036854775807 from HTX.out.len)
        clear hJ3 hH3 hown3 hM3 hy HR k0 k1 k2
        gi_wp2_with fail
        gi_loopw [3, 35] (fun v i wr => ∃ (k : Nat) (stx : Wait) (g' cap' : Nat), v = .slice (some ⟨g', 0, none⟩) stx.length cap' ∧ i = .int .i64 k ∧ k ≤ x.args.length ∧ Mid W wr C (1 + t.depth) J (pre ++ [(x, d)]) stx g' cap' ∧
          stWalk stx = walkS (x.args.take k) (d + 1) ++ stWalk st0 ∧ wr.heap[wo.heap.size]? = some (.cells #[.int .i64 x.kind, .slice p1 x.args.length c1, .int .i64 d] 87 (0, 0)) ∧ g' ≠ wo.heap.size) (fun _ i _ => x.args.length - (intOf i).toNat)
        case atStart => exact ⟨0, st0, g, cap, rfl, rfl, Nat.zero_le _, HM3.out, by simp [walkS], hbb, hgne⟩
        case round =>
          obtain ⟨k, stx, g', cap', rfl, rfl, hk, hMx, hwx, hbx, hgx⟩ := hrel
          have HMX := Lib.hid hMx
          have HWX := Lib.hid hwx
          have HBX := Lib.hid hbx
          clear hMx hwx hbb c1' hbx
          by_cases hlk : k < x.args.length
          · have hlk' := List.getElem?_eq_getElem hlk
            obtain ⟨b, o, p', c', rfl, hcs, hTy⟩ := HTX.out.at k _ hlk'
            obtain ⟨e1, e2⟩ := hcs wr HMX.out.stays
            have f2 := cell_of_blk HBX.out 2
            simp only [List.getElem?_toArray, List.getElem?_cons_zero, List.getElem?_cons_succ] at f2
            have hb6 := (Below.refl wr.heap.size wr).alloc (Nat.le_refl _) (.cells #[.int .i64 x.args[k].kind, .slice p' x.args[k].args.length c'] 26)
            have f3 := (hb6.cell (p := ⟨wo.heap.size, 2, none⟩) (World.block_lt_of_cell? wr _ f2)).trans f2
            have HO6 := Lib.hid (row_below HMX.out.own hb6)
            have hsz := HMX.out.size
            have hst := stWalk_length_ge stx
            have hbnd : stx.length ≤ 1048577 := by
              have h1 := congrArg List.length HO.out
              have h2 := congrArg List.length HWX.out
              rw [List.length_append, walkT_length, stWalk_snoc, List.length_append, walkT_length] at h1
              rw [List.length_append, walkS_length] at h2
              have h3 := nodesS_take_le x.args k
              have h4 := x.nodes_eq
              have h5 := t.nodes_eq
              simp only at h1
              omega
            have HTY := Lib.hid hTy
            have HB6 := Lib.hid hb6
            have HLK := Lib.hid hlk'
            clear hcs hTy hb6 hst hlk'
            gi_wp2_with (gi_at_builtin; refine wpListIn_app1 (w0 := wr.alloc (.cells #[.int .i64 x.args[k].kind, .slice p' x.args[k].args.length c'] 26)) rfl _ _ rfl Try.underlying88 hi hz0 hz1 hz2 rfl (by decide) rfl HO6.out _ rfl (by simp) rfl ?n1 (by unfold maxLen; omega) (by omega) (by simp; omega) ?_)
            case n1 => intro u hu; simp at hu; rcases hu with rfl | rfl | rfl <;> rfl
            intro w' g2 cap2 hA
            have HA := Lib.hid hA
            clear hA
            gi_wp2_with fail
            go_roundw
            case rel =>
              have hk6 := HA.out.kept wo.heap.size (by have := (Array.getElem?_eq_some_iff.1 HBX.out).1; simp; omega) (fun e => by simp [Value.ownBlock] at e; exact hgx e)
              have hown' := HA.out.own
              have hle := depth_part HLK.out
              refine ⟨k + 1, stx ++ [(x.args[k], .slice p' x.args[k].args.length c', d + 1)], g2, cap2, by rw [List.length_append]; rfl, by go_num, by omega, HMX.out.below HJ.out HC1.out ((HB6.out.mono hsz).trans HA.out.below) ?_ ?_, ?_, ?_, hk6.2⟩
              · rw [List.length_append, wcells_snoc]
                exact hown'
              · intro e he
                rcases List.mem_append.1 he with he | he
                · exact HMX.out.ts e he
                · simp only [List.mem_singleton] at he
                  subst he
                  refine ⟨HTY.out, ?_⟩
                  have h1 := HD.out.1
                  have h2 := depth_at x
                  show d + 1 + x.args[k].depth ≤ 1 + t.depth
                  omega
              · rw [stWalk_snoc, HWX.out, take_next hlk, walkS_snoc, List.append_assoc]
              · rw [hk6.1, HB6.out.block _ (by have := (Array.getElem?_eq_some_iff.1 HBX.out).1; omega)]
                exact HBX.out
            case measure => simp [intOf]; omega
          · obtain rfl : k = x.args.length := by omega
            gi_wp2_with fail
            go_roundg (stWalk stx).length
            case rel =>
              have h1 := HWX.out
              rw [List.take_length] at h1
              refine ⟨pre ++ [(x, d)], stx, g', cap', rfl, rfl, ?_, HMX.out⟩
              rw [← HO.out, h1, stWalk_snoc, walkT_eq]
              simp
            case measure =>
              have h1 := HWX.out
              rw [List.take_length] at h1
              rw [h1, stWalk_snoc, walkT_eq]
              simp
      · gi_wp2_with fail
        refine bodyPost_ret (results_none rfl _ _ _) rfl ?_
        exact ⟨⟨_, rfl⟩, .inr ⟨pre ++ [(x, d)], HP.out, hJx3⟩⟩
#print axioms nodes_it
end Go.Proofs.Ytgeliljanljmmaa

