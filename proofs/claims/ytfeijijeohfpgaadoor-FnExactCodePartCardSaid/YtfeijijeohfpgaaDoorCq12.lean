/-
  Several texts of the proof in one (each says below what it holds): GrG CpI CodePartLaw Frame FrameV.
-/
import Derived.Test.YtfeijijeohfpgaaDoorCq7
import Derived.Test.YtfeijijeohfpgaaDoorCq3
import Derived.Test.YtfeijijeohfpgaaDoorCq11
import Derived.Test.YtfeijijeohfpgaaDoorCq2
import Derived.ProofKit
import Derived.OpenShut
import Derived.Carry
import Derived.Below
import Derived.OpenVars
import Derived.ChangeVars
set_option linter.unusedVariables false
set_option linter.unusedSimpArgs false
namespace Go.Proofs.YtfeijijeohfpgaaDoor
open Go Go.RowKit
structure Sd where
  tp : Option Addr
  tc : Nat
  rp : Option Addr
  rc : Nat
  p : Option Addr
  c : Nat
abbrev JobsM := List (JobM × Sd)
abbrev Sd.l (s : Sd) (x : Tm) : List Value := tmL x s.tp s.tc s.rp s.rc s.p s.c
def mcells (st : JobsM) : List Value := st.flatMap fun e => e.2.l e.1.x ++ [.pointer (some ⟨e.1.b, e.1.o, none⟩)]
theorem mcells_length (st : JobsM) : (mcells st).length = st.length * 10 := by
  induction st with
  | nil => rfl
  | cons e st ih => simp only [mcells, List.flatMap_cons, List.length_append, List.length_cons, List.length_nil] at *; omega
theorem mcells_snoc (st : JobsM) (e : JobM × Sd) : mcells (st ++ [e]) = mcells st ++ (e.2.l e.1.x ++ [.pointer (some ⟨e.1.b, e.1.o, none⟩)]) := by simp [mcells]
theorem mcells_take (st : JobsM) (e : JobM × Sd) : (mcells (st ++ [e])).take (st.length * 10) = mcells st := by
  rw [mcells_snoc, ← mcells_length, List.take_left]
theorem mcells_last (st : JobsM) (e : JobM × Sd) (i : Nat) : (mcells (st ++ [e]))[st.length * 10 + i]? = (e.2.l e.1.x ++ [.pointer (some ⟨e.1.b, e.1.o, none⟩)])[i]? := by
  have h := mcells_length st
  rw [mcells_snoc, List.getElem?_append_right (by omega), h, show st.length * 10 + i - st.length * 10 = i by omega]
def mload (st : JobsM) : Nat := (st.map fun e => e.1.x.nodes).sum
theorem mload_snoc (st : JobsM) (e : JobM × Sd) : mload (st ++ [e]) = mload st + e.1.x.nodes := by simp [mload]
theorem mload_ge (st : JobsM) : st.length ≤ mload st := by
  induction st with
  | nil => simp [mload]
  | cons e st ih =>
    have := e.1.x.nodes_eq
    simp only [mload, List.map_cons, List.sum_cons, List.length_cons] at *
    omega
theorem infoTkM : (Tryd.prog.info? 115).map (fun i => (i.zero, i.size, i.bytes)) = some (some (.agg #[.int .i64 0, .string ⟨#[]⟩, .string ⟨#[]⟩, .int .i64 0, .int .i64 0, .slice none 0 0, .int .i64 0, .slice none 0 0, .slice none 0 0, .pointer none]), 10, 144) := by kernel_rfl
theorem nodesM_take_next (ts : List Tm) (k : Nat) (h : k < ts.length) : nodesM (ts.take (k + 1)) = nodesM (ts.take k) + ts[k].nodes := nodesM_take ts k h
theorem OSt.inHeap {w : World} {ds : List D} {vs : List Value} {F : Nat → Prop} (h : OSt w ds vs F) : OSt w ds vs (fun z => F z ∧ z < w.heap.size) := by
  obtain ⟨hl, G, h1, h2, h3⟩ := h
  exact ⟨hl, fun i z => G i z ∧ z < w.heap.size, fun i d v hd hv => (h1 i d v hd hv).inHeap, fun i z hi hz => ⟨h2 i z hi hz.1, hz.2⟩, fun i j z hi hj hij a b => h3 i j z hi hj hij a.1 b.1⟩
structure EM (w wr : World) (t : Tm) (st : JobsM) (g cap : Nat) (U K : Nat → Prop) : Prop where
  own : wr.ownsRow w.heap.size 115 10 (.slice (some ⟨g, 0, none⟩) st.length cap) st.length (mcells st)
  ts : ∀ e ∈ st, TM' w (· < w.heap.size) e.1.x e.2.tp e.2.tc e.2.rp e.2.rc e.2.p e.2.c
  wt : ∀ e ∈ st, e.1.x.wt ≤ t.wt
  inv : GInv wr U K (st.map (·.1)) (w.heap.size + 1 + 1) t
  res : wr.heap[w.heap.size + 1]? = some (.cells #[.int .i64 0, .string ⟨#[]⟩, .string ⟨#[]⟩, .int .i64 0, .int .i64 0, .slice none 0 0, .int .i64 0, .slice none 0 0, .slice none 0 0] 35 (0, 0))
  below : Below w.heap.size w wr

set_option maxRecDepth 100000 in
set_option maxHeartbeats 8000000 in
theorem growM_any {C : Nat → Prop} {t : Tm} {tp : Option Addr} {tc : Nat} {rp : Option Addr} {rc : Nat} {p : Option Addr} {c : Nat} {w : World} (hS : TM' w C t tp tc rp rc p c) (hn : t.wt ≤ 1048576) :
    Calls Tryd.prog 74 #[tmV t tp tc rp rc p c, .func (.func 75) #[] #[], .func (.func 76) #[] #[]] w (NewM t w) := by
  obtain ⟨i0, hi, hz0, hz1, hz2⟩ := info_parts infoTkM
  have hnn : t.nodes ≤ 1048577 := by have := t.nodes_wt; omega
  have HN := Lib.hid hn
  have HS := Lib.hid (hS.mono (C' := (· < w.heap.size)) (fun b _ h => h))
  clear hS hn
  go_enter Tryd.func74, Tryd.ntmps74
  go_wp2_with fail
  go_loopg [8] t.nodes (fun gk v wr => ∃ (st : JobsM) (g cap : Nat) (U K : Nat → Prop), v = .slice (some ⟨g, 0, none⟩) st.length cap ∧ gk = mload st ∧ mload st ≤ t.nodes ∧ EM w wr t st g cap U K)
  case atStart =>
    obtain ⟨wl, hwl, hsz, hbl, q0, q1, q2⟩ := box_new3 w (tmC t tp tc rp rc p c) #[.int .i64 0, .string ⟨#[]⟩, .string ⟨#[]⟩, .int .i64 0, .int .i64 0, .slice none 0 0, .int .i64 0, .slice none 0 0, .slice none 0 0] #[.int .i64 0, .string ⟨#[]⟩, .string ⟨#[]⟩, .int .i64 0, .int .i64 0, .slice none 0 0, .int .i64 0, .slice none 0 0, .slice none 0 0] 35 35 35
    rw [hwl]
    have hb4 := (Below.refl wl.heap.size wl).alloc (Nat.le_refl _) (.cells #[.int .i64 t.kind, .string t.name, .string t.other, .int .i64 t.n, .int .i64 t.ty.kind, .slice tp t.ty.args.length tc, .int .i64 t.res.kind, .slice rp t.res.args.length rc, .slice p t.args.length c, .pointer (some ⟨w.heap.size + 1 + 1, 0, none⟩)] 115)
    have hsz' : wl.heap.size = w.heap.size + 1 + 1 + 1 := hsz
    refine ⟨[(⟨t, w.heap.size + 1 + 1, 0⟩, ⟨tp, tc, rp, rc, p, c⟩)], w.heap.size + 1 + 1 + 1, 1, fun b => b = w.heap.size + 1 + 1, fun _ => False, rfl, by simp [mload], by simp [mload], ?_, ?_, ?_, ?_, ?_, ?_⟩
    · have h1 := World.ownsRow_lit (base := w.heap.size) (e := 115) (size := 10) wl #[.int .i64 t.kind, .string t.name, .string t.other, .int .i64 t.n, .int .i64 t.ty.kind, .slice tp t.ty.args.length tc, .int .i64 t.res.kind, .slice rp t.res.args.length rc, .slice p t.args.length c, .pointer (some ⟨w.heap.size + 1 + 1, 0, none⟩)] 1 (by omega) (by unfold maxLen; omega) rfl
      rw [hsz'] at h1
      exact h1
    · intro e he
      simp only [List.mem_singleton] at he
      subst he
      exact HS.out
    · intro e he
      simp only [List.mem_singleton] at he
      subst he
      exact Nat.le_refl _
    · exact (GInv.start q2 rfl).frame hb4.size (fun c hc => hb4.block c (by
        rcases hc with hc | hc
        · have hc : c = w.heap.size + 1 + 1 := hc
          omega
        · exact hc.elim))
    · exact (hb4.block _ (by omega)).trans q1
    · exact hbl.trans (hb4.mono hbl.size)
  case round =>
    obtain ⟨st, g, cap, U, K, rfl, rfl, hle, hM⟩ := hrel
    rename World => wo
    rcases snoc_cases st with rfl | ⟨st0, e, rfl⟩
    · have HM := Lib.hid hM
      obtain ⟨vs, ⟨hv9, hvc⟩, ro⟩ := hM.inv.done
      obtain ⟨v0, v1, v2, v3, v4, v5, v6, v7, v8, rfl⟩ : ∃ v0 v1 v2 v3 v4 v5 v6 v7 v8, vs = [v0, v1, v2, v3, v4, v5, v6, v7, v8] := by
        match vs, hv9 with
        | [v0, v1, v2, v3, v4, v5, v6, v7, v8], _ => exact ⟨v0, v1, v2, v3, v4, v5, v6, v7, v8, rfl⟩
      have hmm := ro.ms.2
      rw [t.ds_eq] at hmm
      obtain rfl := (hmm 0 _ _ rfl rfl).val
      obtain rfl := (hmm 1 _ _ rfl rfl).val
      obtain rfl := (hmm 2 _ _ rfl rfl).val
      obtain rfl := (hmm 3 _ _ rfl rfl).val
      obtain rfl := (hmm 4 _ _ rfl rfl).val
      obtain ⟨tp1, tc1, rfl⟩ := (hmm 5 _ _ rfl rfl).form
      obtain rfl := (hmm 6 _ _ rfl rfl).val
      obtain ⟨rp1, rc1, rfl⟩ := (hmm 7 _ _ rfl rfl).form
      obtain ⟨p1, c1, rfl⟩ := (hmm 8 _ _ rfl rfl).form
      have f0 := hvc 0 (by omega)
      have f1 := hvc 1 (by omega)
      have f2 := hvc 2 (by omega)
      have f3 := hvc 3 (by omega)
      have f4 := hvc 4 (by omega)
      have f5 := hvc 5 (by omega)
      have f6 := hvc 6 (by omega)
      have f7 := hvc 7 (by omega)
      have f8 := hvc 8 (by omega)
      simp only [Nat.zero_add, List.getElem?_cons_zero, List.getElem?_cons_succ] at f0 f1 f2 f3 f4 f5 f6 f7 f8
      have q0 := cell_of_blk hM.res 0
      have q1 := cell_of_blk hM.res 1
      have q2 := cell_of_blk hM.res 2
      have q3 := cell_of_blk hM.res 3
      have q4 := cell_of_blk hM.res 4
      have q5 := cell_of_blk hM.res 5
      have q6 := cell_of_blk hM.res 6
      have q7 := cell_of_blk hM.res 7
      have q8 := cell_of_blk hM.res 8
      have qz := unfrozen_of_blk hM.res
      simp only [List.getElem?_toArray, List.getElem?_cons_zero, List.getElem?_cons_succ] at q0 q1 q2 q3 q4 q5 q6 q7 q8
      have HRO := Lib.hid ro
      clear hM ro hvc hmm hv9
      go_wp2_with fail
      refine bodyPost_ret (v := tmV t tp1 tc1 rp1 rc1 p1 c1) ?_ rfl ?_
      · rw [results_cell1 rfl]
        go_simp
      · have hst := setN_stays (tmL t tp1 tc1 rp1 rc1 p1 c1) (fun z => w.heap.size + 1 + 1 < z) wo (w.heap.size + 1) 0 (by omega)
        have hbl := setN_below (tmL t tp1 tc1 rp1 rc1 p1 c1) w.heap.size wo (w.heap.size + 1) 0 (by omega)
        have hsz := setN_size (tmL t tp1 tc1 rp1 rc1 p1 c1) wo (w.heap.size + 1) 0
        simp only [tmL, setN, Nat.zero_add, Nat.reduceAdd] at hst hbl hsz
        refine ⟨_, rfl, ⟨tp1, tc1, rp1, rc1, p1, c1, rfl, (HRO.out.stays hst).inHeap.mono (fun z hz => ⟨by omega, hz.2⟩)⟩, HM.out.below.trans hbl⟩
    · obtain ⟨⟨x, b, o⟩, ⟨tpx, tcx, rpx, rcx, px, cx⟩⟩ := e
      have hT := hM.ts (⟨x, b, o⟩, ⟨tpx, tcx, rpx, rcx, px, cx⟩) (by simp)
      have hwx := hM.wt (⟨x, b, o⟩, ⟨tpx, tcx, rpx, rcx, px, cx⟩) (by simp)
      simp only at hT hwx
      have hlx := hT.args.len.1
      have hlen : (st0 ++ [((⟨x, b, o⟩, ⟨tpx, tcx, rpx, rcx, px, cx⟩) : JobM × Sd)]).length = st0.length + 1 := by simp
      have hown := hM.own
      rw [hlen] at hown
      rw [hlen]
      obtain ⟨hcap1, hcap2, hg1, hg2⟩ := row_cap hown
      have k0 := (hown.cellAt (st0.length * 10 + 0) (by omega)).trans (mcells_last st0 _ 0)
      have k1 := (hown.cellAt (st0.length * 10 + 1) (by omega)).trans (mcells_last st0 _ 1)
      have k2 := (hown.cellAt (st0.length * 10 + 2) (by omega)).trans (mcells_last st0 _ 2)
      have k3 := (hown.cellAt (st0.length * 10 + 3) (by omega)).trans (mcells_last st0 _ 3)
      have k4 := (hown.cellAt (st0.length * 10 + 4) (by omega)).trans (mcells_last st0 _ 4)
      have k5 := (hown.cellAt (st0.length * 10 + 5) (by omega)).trans (mcells_last st0 _ 5)
      have k6 := (hown.cellAt (st0.length * 10 + 6) (by omega)).trans (mcells_last st0 _ 6)
      have k7 := (hown.cellAt (st0.length * 10 + 7) (by omega)).trans (mcells_last st0 _ 7)
      have k8 := (hown.cellAt (st0.length * 10 + 8) (by omega)).trans (mcells_last st0 _ 8)
      have k9 := (hown.cellAt (st0.length * 10 + 9) (by omega)).trans (mcells_last st0 _ 9)
      simp only [Sd.l, tmL, List.cons_append, List.nil_append, List.getElem?_cons_zero, List.getElem?_cons_succ] at k0 k1 k2 k3 k4 k5 k6 k7 k8 k9
      rw [Nat.add_zero] at k0
      unfold maxLen at hcap2
      have hlx0 : (mload st0 + x.nodes) ≤ t.nodes := by rw [mload_snoc] at hle; exact hle
      have HLE := Lib.hid hlx0
      obtain ⟨wn, hwn, hsn, hbn, rn⟩ := box_new wo #[.int .i64 x.kind, .string x.name, .string x.other, .int .i64 x.n, .int .i64 x.ty.kind, .slice tpx x.ty.args.length tcx, .int .i64 x.res.kind, .slice rpx x.res.args.length rcx, .slice px x.args.length cx, .pointer (some ⟨b, o, none⟩)] 115
      have hwe := x.wt_eq
      have hge := wtS_ge x.args
      have HC := Lib.hid (copyNM_any (w := wn) ((hT.stays (.of_below hM.below)).stays (.of_below hbn)) (by have := HN.out; omega) (by have := HN.out; omega) (by have := HN.out; omega))
      have HM := Lib.hid hM
      have HT := Lib.hid hT
      have HOWN := Lib.hid hown
      have HWX := Lib.hid hwx
      have HWN := Lib.hid (And.intro hsn (And.intro hbn rn))
      have HWW := Lib.hid hwn
      have hlx2 : x.args.length ≤ 1048576 := by have := HN.out; omega
      clear hM hT hown hle hlx0 hsn hbn rn hwn hwx hwe hge
      have i0' : (0 : Int) ≤ (st0.length : Int) := Int.natCast_nonneg _
      have i1' : (st0.length : Int) < ((st0.length : Int) + 1) := by omega
      go_wp2_with fail
      rw [HWW.out]
      refine HC.out.mono ?_
      rintro e w1 ⟨tp1, tc1, rp1, rc1, p1, c1, bb, F1, F2, rfl, ho1, ho2, hF1, hF2, hpart, hb1⟩
      obtain ⟨hsn, hbn, rn⟩ := HWN.out
      have hb01 : Below wo.heap.size wo w1 := hbn.trans (hb1.mono hbn.size)
      have rn1 := (hb1.block wo.heap.size (by omega)).trans rn
      have hmap : (st0 ++ [((⟨x, b, o⟩, ⟨tpx, tcx, rpx, rcx, px, cx⟩) : JobM × Sd)]).map (·.1) = st0.map (·.1) ++ [⟨x, b, o⟩] := by simp
      have inv0 := HM.out.inv
      rw [hmap] at inv0
      have inv1 : GInv w1 U K (st0.map (·.1) ++ [⟨x, b, o⟩]) (w.heap.size + 1 + 1) t := inv0.frame hb01.size (fun k hk => hb01.block k (inv0.low hk))
      obtain ⟨wB, hwB, hsB, hbB, rB⟩ := box_new w1 (tmC x tp1 tc1 rp1 rc1 p1 c1) 35
      have inv2 : GInv wB U K (st0.map (·.1) ++ [⟨x, b, o⟩]) (w.heap.size + 1 + 1) t := inv1.frame hbB.size (fun k hk => hbB.block k (inv1.low hk))
      obtain ⟨hUb, hcs, hpar⟩ := inv2.loc ⟨x, b, o⟩ (by simp)
      simp only at hUb hcs hpar
      obtain ⟨u0', l0⟩ := hcs 0 (by omega)
      obtain ⟨u1', l1⟩ := hcs 1 (by omega)
      obtain ⟨u2', l2⟩ := hcs 2 (by omega)
      obtain ⟨u3', l3⟩ := hcs 3 (by omega)
      obtain ⟨u4', l4⟩ := hcs 4 (by omega)
      obtain ⟨u5', l5⟩ := hcs 5 (by omega)
      obtain ⟨u6', l6⟩ := hcs 6 (by omega)
      obtain ⟨u7', l7⟩ := hcs 7 (by omega)
      obtain ⟨u8', l8⟩ := hcs 8 (by omega)
      rw [Nat.add_zero] at l0
      obtain ⟨hRb, hbw1, cur1, hcur1⟩ := inv2.lt b hUb
      have hs01 := hb01.size
      have hsz1 := hb1.size
      have lz := unfrozen_of_blk hcur1
      have hfit : o + 9 ≤ cur1.size := by
        have h8 := l8
        rw [cell_of_blk' hcur1] at h8
        have := (Array.getElem?_eq_some_iff.1 h8).1
        omega
      have rn2 := (hbB.block wo.heap.size (by omega)).trans rn1
      have n9 := cell_of_blk rn2 9
      simp only [List.getElem?_toArray, List.getElem?_cons_zero, List.getElem?_cons_succ] at n9
      obtain ⟨y0, y1, y2, y3, y4, y5, y6, y7, y8⟩ := Bx9.of rB
      rw [← hwB] at n9 l0 l1 l2 l3 l4 l5 l6 l7 l8 lz y0 y1 y2 y3 y4 y5 y6 y7 y8
      have HWB := Lib.hid hwB
      clear hwB k0 k1 k2 k3 k4 k5 k6 k7 k8 k9
      go_upto_region 8 with fail
      rw [HWB.out]
      obtain ⟨wm, hwm⟩ : ∃ wm, (((((((((wB.setCell ⟨b, o, none⟩ (.int .i64 x.kind)).setCell ⟨b, o + 1, none⟩ (.string x.name)).setCell ⟨b, o + 2, none⟩ (.string x.other)).setCell ⟨b, o + 3, none⟩ (.int .i64 x.n)).setCell ⟨b, o + 4, none⟩ (.int .i64 x.ty.kind)).setCell ⟨b, o + 5, none⟩ (.slice tp1 x.ty.args.length tc1)).setCell ⟨b, o + 6, none⟩ (.int .i64 x.res.kind)).setCell ⟨b, o + 7, none⟩ (.slice rp1 x.res.args.length rc1)).setCell ⟨b, o + 8, none⟩ (.slice p1 x.args.length c1)) = wm := ⟨_, rfl⟩
      rw [hwm]
      have hblkm : wm.heap[b]? = some (.cells (setA cur1 o (tmL x tp1 tc1 rp1 rc1 p1 c1)) 35 (0, 0)) := hwm ▸ setN_block (tmL x tp1 tc1 rp1 rc1 p1 c1) wB b o cur1 _ hcur1
      have hother : ∀ z, z ≠ b → wm.heap[z]? = wB.heap[z]? := fun z hz => hwm ▸ setN_heap_ne (w := wB) (o := o) (vs := tmL x tp1 tc1 rp1 rc1 p1 c1) hz
      have hsm : wm.heap.size = wB.heap.size := hwm ▸ setN_size (tmL x tp1 tc1 rp1 rc1 p1 c1) wB b o
      have hBm : Below w.heap.size w wm := ((HM.out.below.trans (hb01.mono HM.out.below.size)).trans (hbB.mono (Nat.le_trans HM.out.below.size hs01))).trans (hwm ▸ setN_below (tmL x tp1 tc1 rp1 rc1 p1 c1) w.heap.size wB b o (by omega))
      have h9 : Has9 wm b o (tmL x tp1 tc1 rp1 rc1 p1 c1) := ⟨rfl, fun j hj => by rw [cell_of_blk' hblkm]; exact setA_in _ cur1 o j hj hfit⟩
      have hsame : ∀ c, U c → ∀ q, ¬ (c = b ∧ o ≤ q ∧ q < o + 9) → wm.cell? ⟨c, q, none⟩ = wB.cell? ⟨c, q, none⟩ := fun c hc q hq => by
        by_cases hcb : c = b
        · subst hcb
          rw [cell_of_blk' hblkm, cell_of_blk' hcur1]
          exact setA_out _ cur1 o q (by show q < o ∨ o + 9 ≤ q; omega)
        · exact World.cell?_of_block (a := ⟨c, q, none⟩) (hother c hcb)
      have hshape : ∀ c, U c → ∀ cur : Array Value, wB.heap[c]? = some (.cells cur 35 (0, 0)) → ∃ cur' : Array Value, wm.heap[c]? = some (.cells cur' 35 (0, 0)) ∧ cur'.size = cur.size := fun c hc cur hcur => by
        by_cases hcb : c = b
        · subst hcb
          rw [hcur1] at hcur
          simp only [Option.some.injEq, Obj.cells.injEq, and_true] at hcur
          subst hcur
          exact ⟨_, hblkm, setA_size _ _ _⟩
        · exact ⟨cur, (hother c hcb).trans hcur, rfl⟩
      have invN : GInv wn U K (st0.map (·.1) ++ [⟨x, b, o⟩]) (w.heap.size + 1 + 1) t := inv0.frame hbn.size (fun k hk => hbn.block k (inv0.low hk))
      have hbn' : b < wn.heap.size := (invN.lt b hUb).2.1
      have hUN : ∀ z, U z ∨ K z → wB.heap[z]? = wn.heap[z]? := fun z hz => by
        have hz1 := invN.low hz
        exact (hbB.block z (by omega)).trans (hb1.block z hz1)
      have hsameN : ∀ c, U c → ∀ q, ¬ (c = b ∧ o ≤ q ∧ q < o + 9) → wm.cell? ⟨c, q, none⟩ = wn.cell? ⟨c, q, none⟩ := fun c hc q hq => (hsame c hc q hq).trans (World.cell?_of_block (a := ⟨c, q, none⟩) (hUN c (Or.inl hc)))
      have hshapeN : ∀ c, U c → ∀ cur : Array Value, wn.heap[c]? = some (.cells cur 35 (0, 0)) → ∃ cur' : Array Value, wm.heap[c]? = some (.cells cur' 35 (0, 0)) ∧ cur'.size = cur.size := fun c hc cur hcur => hshape c hc cur ((hUN c (Or.inl hc)).trans hcur)
      have hkeepN : ∀ z, K z → wm.heap[z]? = wn.heap[z]? := fun z hz => (hother z (fun e => (invN.lt b hUb).2.2.not (e ▸ invN.ltK z hz))).trans (hUN z (Or.inr hz))
      have hmov : ∀ z, wn.heap.size ≤ z → z < w1.heap.size → wm.heap[z]? = w1.heap[z]? := fun z hz hl => (hother z (by omega)).trans (hbB.block z hl)
      have hb1' : w1.heap.size ≤ wm.heap.size := by omega
      have hEI := invN.node (wn := wm) (by omega) hsameN hshapeN hkeepN h9 (ho1.stays ⟨hb1', fun z hz hl => hmov z (hF1 z hz).1 hl⟩) (ho2.stays ⟨hb1', fun z hz hl => hmov z (hF2 z hz).1 hl⟩)
        (fun z hz => ⟨(hF1 z hz).1, (hF1 z hz).2.1.elim fun cur h => ⟨cur, (hmov z (hF1 z hz).1 (blk_lt h)).trans h⟩, (hF1 z hz).2.2⟩) (fun z hz => ⟨(hF2 z hz).1, (hF2 z hz).2.elim fun cur h => ⟨cur, (hmov z (hF2 z hz).1 (blk_lt h)).trans h⟩⟩)
        (hpart.keep (Nat.le_refl _) (fun hb hl => hmov bb hb hl))
      obtain ⟨U', hU'⟩ : ∃ U' : Nat → Prop, U' = fun z => U z ∨ (0 < x.args.length ∧ z = bb) := ⟨_, rfl⟩
      obtain ⟨K', hK'⟩ : ∃ K' : Nat → Prop, K' = fun z => K z ∨ F1 z ∨ F2 z := ⟨_, rfl⟩
      rw [← hU', ← hK'] at hEI
      have hps : 0 < x.args.length → p1 = some ⟨bb, 0, none⟩ := fun h0 => by
        rcases hpart with ⟨e, _⟩ | ⟨_, _, e, _⟩
        · omega
        · exact e
      have hgb : g ≠ b := (inv0.lt b hUb).2.2.elim fun cur0 h => row_ne HOWN.out h (by decide)
      have hown1 : wm.ownsRow w.heap.size 115 10 (.slice (some ⟨g, 0, none⟩) st0.length cap) st0.length (mcells st0) := by
        have h2 := row_take (row_of_block HOWN.out ((hother g hgb).trans ((hbB.block g (by omega)).trans (hb01.block g hg2)))) (Nat.le_succ _)
        rw [mcells_take] at h2
        exact h2
      have hresm : wm.heap[w.heap.size + 1]? = some (.cells #[.int .i64 0, .string ⟨#[]⟩, .string ⟨#[]⟩, .int .i64 0, .int .i64 0, .slice none 0 0, .int .i64 0, .slice none 0 0, .slice none 0 0] 35 (0, 0)) := by
        have hlt := (Array.getElem?_eq_some_iff.1 HM.out.res).1
        exact (hother _ (by omega)).trans ((hbB.block _ (by omega)).trans ((hb01.block _ hlt).trans HM.out.res))
      have hbm1 : wm.heap[w1.heap.size]? = some (.cells (tmC x tp1 tc1 rp1 rc1 p1 c1) 35 (0, 0)) := (hother _ (by omega)).trans rB
      have hlps : x.args.length ≤ 9223372036854775807 := hlx
      have HEI := Lib.hid hEI
      have HPS := Lib.hid hps
      have HOW := Lib.hid hown1
      have HRES := Lib.hid hresm
      have HBM := Lib.hid hBm
      have HNX := Lib.hid (show x.nodes = 1 + nodesM x.args from x.nodes_eq)
      have HWA := Lib.hid (show wtS x.args ≤ t.wt by have := x.wt_eq; have := HWX.out; omega)
      obtain ⟨z0, z1, z2, z3, z4, z5, z6, z7, z8⟩ := Bx9.of hbm1
      clear hEI hps hown1 hresm hBm hwm hpart hb1 hsn hbn rn hb01 rn1 hmap inv0 inv1 hsB hbB rB inv2 hRb hbw1 hcur1 hs01 hsz1 rn2 hblkm hsm hother hsame hshape invN hUN hsameN hshapeN hkeepN hmov hb1' HC HWN HWW HWB hUb h9 hfit ho1 ho2 hF1 hF2 hbm1 hgb hbn' hU' hK' hcs hpar lz n9 l0 l1 l2 l3 l4 l5 l6 l7 l8 y0 y1 y2 y3 y4 y5 y6 y7 y8
      go_wp2_with fail
      refine (argsM_any _ _ _ _ _ _ _ _).mono ?_
      rintro e w2 ⟨rfl, hb2⟩
      have hs2 := hb2.size
      have inv3 : GInv w2 U' K' (st0.map (·.1) ++ kidsM bb x.args) (w.heap.size + 1 + 1) t := HEI.out.frame hs2 (fun k hk => hb2.block k (HEI.out.low hk))
      have HI3 := Lib.hid inv3
      have HO3 := Lib.hid (row_below HOW.out hb2)
      have HR3 := Lib.hid ((hb2.block _ (Array.getElem?_eq_some_iff.1 HRES.out).1).trans HRES.out)
      have HB3 := Lib.hid (HBM.out.trans (hb2.mono HBM.out.size))
      clear hb2 inv3 hs2 z0 z1 z2 z3 z4 z5 z6 z7 z8
      go_wp2_with fail
      go_loopw [8, 47] (fun v i wr => ∃ (k : Nat) (stx : JobsM) (g' cap' : Nat), v = .slice (some ⟨g', 0, none⟩) stx.length cap' ∧ i = .int .i64 k ∧ k ≤ x.args.length ∧ wr.ownsRow w.heap.size 115 10 (.slice (some ⟨g', 0, none⟩) stx.length cap') stx.length (mcells stx) ∧
        (∀ e ∈ stx, TM' w (· < w.heap.size) e.1.x e.2.tp e.2.tc e.2.rp e.2.rc e.2.p e.2.c) ∧ (∀ e ∈ stx, e.1.x.wt ≤ t.wt) ∧ stx.map (·.1) = st0.map (·.1) ++ (kidsM bb x.args).take k ∧ mload stx = mload st0 + nodesM (x.args.take k) ∧ (∀ c, U' c ∨ K' c → wr.heap[c]? = w2.heap[c]?) ∧
        wr.heap[w.heap.size + 1]? = some (.cells #[.int .i64 0, .string ⟨#[]⟩, .string ⟨#[]⟩, .int .i64 0, .int .i64 0, .slice none 0 0, .int .i64 0, .slice none 0 0, .slice none 0 0] 35 (0, 0)) ∧ Below w.heap.size w wr ∧ w2.heap.size ≤ wr.heap.size) (fun _ i _ => x.args.length - (intOf i).toNat)
      case atStart => exact ⟨0, st0, g, cap, rfl, rfl, Nat.zero_le _, HO3.out, fun e he => HM.out.ts e (List.mem_append_left _ he), fun e he => HM.out.wt e (List.mem_append_left _ he), by simp, by simp [nodesM], fun _ _ => rfl, HR3.out, HB3.out, Nat.le_refl _⟩
      case round =>
        obtain ⟨k, stx, g', cap', rfl, rfl, hk, hox, htx, hwtx, hmx, hlx2, hux, hrx, hBx, hsx⟩ := hrel
        have HOX := Lib.hid hox
        have HTX := Lib.hid htx
        have HWTX := Lib.hid hwtx
        have HMX := Lib.hid hmx
        have HLX := Lib.hid hlx2
        have HUX := Lib.hid hux
        have HRX := Lib.hid hrx
        have HBB := Lib.hid hBx
        have HSX := Lib.hid hsx
        clear hox htx hwtx hmx hlx2 hux hrx hBx hsx
        by_cases hlk : k < x.args.length
        · obtain ⟨b3, o3, tp', tc', rp', rc', p', c', hpy, hCb, hb3lt, h9, hTk⟩ := tm_part HT.out.args k hlk
          subst hpy
          obtain ⟨f0, f1, f2, f3, f4, f5, f6, f7, f8⟩ := h9 wr (.of_below HBB.out)
          have hpsk := HPS.out (by omega)
          subst hpsk
          have hbnd : stx.length ≤ 1048577 := by
            have h1 := mload_ge stx
            have h2 := HLX.out
            have h3 := nodesM_take_le x.args k
            have h4 := HLE.out
            have h5 := HNX.out
            omega
          have HO0 := Lib.hid (show (wr.drew).ownsRow w.heap.size 115 10 (.slice (some ⟨g', 0, none⟩) stx.length cap') stx.length (mcells stx) from row_below HOX.out (Below.refl wr.heap.size wr).drew)
          have hgg := (row_cap HOX.out).2.2.1
          have hsz6 : w.heap.size ≤ wr.heap.size := HBB.out.size
          have HKA := Lib.hid (fun (w' : World) (g2 cap2 : Nat) (hA : Appd wr.drew w' w.heap.size 115 10 (.slice (some ⟨g', 0, none⟩) stx.length cap') stx.length (mcells stx) [.int .i64 x.args[k].kind, .string x.args[k].name, .string x.args[k].other, .int .i64 x.args[k].n, .int .i64 x.args[k].ty.kind, .slice tp' x.args[k].ty.args.length tc', .int .i64 x.args[k].res.kind, .slice rp' x.args[k].res.args.length rc', .slice p' x.args[k].args.length c', .pointer (some ⟨bb, k * 9, none⟩)] g2 cap2) =>
            (⟨keepApp hA f0 (fun e => by simp [Value.ownBlock] at e; omega), keepApp hA f1 (fun e => by simp [Value.ownBlock] at e; omega), keepApp hA f2 (fun e => by simp [Value.ownBlock] at e; omega), keepApp hA f3 (fun e => by simp [Value.ownBlock] at e; omega), keepApp hA f4 (fun e => by simp [Value.ownBlock] at e; omega), keepApp hA f5 (fun e => by simp [Value.ownBlock] at e; omega), keepApp hA f6 (fun e => by simp [Value.ownBlock] at e; omega), keepApp hA f7 (fun e => by simp [Value.ownBlock] at e; omega), keepApp hA f8 (fun e => by simp [Value.ownBlock] at e; omega)⟩ :
              w'.cell? ⟨b3, o3 + k * 9, none⟩ = some (.int .i64 x.args[k].kind) ∧ w'.cell? ⟨b3, o3 + k * 9 + 1, none⟩ = some (.string x.args[k].name) ∧ w'.cell? ⟨b3, o3 + k * 9 + 2, none⟩ = some (.string x.args[k].other) ∧ w'.cell? ⟨b3, o3 + k * 9 + 3, none⟩ = some (.int .i64 x.args[k].n) ∧ w'.cell? ⟨b3, o3 + k * 9 + 4, none⟩ = some (.int .i64 x.args[k].ty.kind) ∧ w'.cell? ⟨b3, o3 + k * 9 + 5, none⟩ = some (.slice tp' x.args[k].ty.args.length tc') ∧ w'.cell? ⟨b3, o3 + k * 9 + 6, none⟩ = some (.int .i64 x.args[k].res.kind) ∧ w'.cell? ⟨b3, o3 + k * 9 + 7, none⟩ = some (.slice rp' x.args[k].res.args.length rc') ∧ w'.cell? ⟨b3, o3 + k * 9 + 8, none⟩ = some (.slice p' x.args[k].args.length c')))
          have HTK := Lib.hid hTk
          have hwk := wtS_at x.args k hlk
          have HWK := Lib.hid (show x.args[k].wt ≤ t.wt by have := HWA.out; omega)
          have ii0 : (0 : Int) ≤ (k : Int) := Int.natCast_nonneg _
          have ii1 : (k : Int) < (x.args.length : Int) := by omega
          clear h9 hTk hCb hwk
          go_wp2_with fail
          go_region_held3 (fun w' => w'.cell? ⟨b3, o3 + k * 9, none⟩ = some (.int .i64 x.args[k].kind) ∧ w'.cell? ⟨b3, o3 + k * 9 + 1, none⟩ = some (.string x.args[k].name) ∧ w'.cell? ⟨b3, o3 + k * 9 + 2, none⟩ = some (.string x.args[k].other) ∧ w'.cell? ⟨b3, o3 + k * 9 + 3, none⟩ = some (.int .i64 x.args[k].n) ∧ w'.cell? ⟨b3, o3 + k * 9 + 4, none⟩ = some (.int .i64 x.args[k].ty.kind) ∧ w'.cell? ⟨b3, o3 + k * 9 + 5, none⟩ = some (.slice tp' x.args[k].ty.args.length tc') ∧ w'.cell? ⟨b3, o3 + k * 9 + 6, none⟩ = some (.int .i64 x.args[k].res.kind) ∧ w'.cell? ⟨b3, o3 + k * 9 + 7, none⟩ = some (.slice rp' x.args[k].res.args.length rc') ∧ w'.cell? ⟨b3, o3 + k * 9 + 8, none⟩ = some (.slice p' x.args[k].args.length c'))
            (first
              | exact HKA.out _ _ _ hA
              | (go_keep; done)
              | exact ⟨f0, f1, f2, f3, f4, f5, f6, f7, f8⟩)
            (first
              | (refine step_app1 (w0 := wr.drew) (v := .slice (some ⟨g', 0, none⟩) stx.length cap') (n := stx.length) (xs := mcells stx) rfl (.tmp 50) (.tmp 59) rfl Tryd.underlying116 hi hz0 hz1 hz2 rfl (by decide) rfl HO0.out _ rfl (by simp) rfl (fun u hu => by simp at hu; rcases hu with rfl | rfl | rfl | rfl | rfl | rfl | rfl | rfl | rfl | rfl <;> rfl) (by unfold maxLen; omega) (by omega) (by simp; omega) ?_; intro w' g2 cap2 hA))
          rename_i hH
          have HA := Lib.hid hA
          clear hH hA f0 f1 f2 f3 f4 f5 f6 f7 f8
          go_wp2_with fail
          go_roundw
          case rel =>
            have hinv : GInv wr U' K' _ (w.heap.size + 1 + 1) t := HI3.out.frame HSX.out HUX.out
            have keepB : ∀ (cc : Nat) (cs : Array Value) (e' : TypeId), wr.heap[cc]? = some (.cells cs e' (0, 0)) → e' ≠ 115 → w'.heap[cc]? = wr.heap[cc]? := fun cc cs e' hcc hne => by
              have hlt := (Array.getElem?_eq_some_iff.1 hcc).1
              exact (HA.out.kept cc hlt (fun e => row_ne HOX.out hcc hne (by simpa [Value.ownBlock] using e))).1
            have hown' := HA.out.own
            have hszA := HA.out.size
            have hsx2 := HSX.out
            refine ⟨k + 1, stx ++ [(⟨x.args[k], bb, k * 9⟩, ⟨tp', tc', rp', rc', p', c'⟩)], g2, cap2, by rw [List.length_append]; rfl, by go_num, by omega, ?_, ?_, ?_, ?_, ?_, fun cc hcc => ?_, (keepB _ _ _ HRX.out (by decide)).trans HRX.out, HBB.out.trans ((Below.refl _ wr).drew.trans HA.out.below), ?_⟩
            · rw [List.length_append, mcells_snoc]
              exact hown'
            · intro e he
              rcases List.mem_append.1 he with he | he
              · exact HTX.out e he
              · simp only [List.mem_singleton] at he
                subst he
                exact HTK.out
            · intro e he
              rcases List.mem_append.1 he with he | he
              · exact HWTX.out e he
              · simp only [List.mem_singleton] at he
                subst he
                exact HWK.out
            · rw [List.map_append, HMX.out, List.take_add_one, kidsM_get (List.getElem?_eq_getElem hlk), List.append_assoc]
              rfl
            · rw [mload_snoc, HLX.out, nodesM_take_next _ _ hlk, Nat.add_assoc]
            · rcases hcc with hcc | hcc
              · obtain ⟨_, _, cur, hcur⟩ := hinv.lt cc hcc
                exact (keepB cc cur _ hcur (by decide)).trans (HUX.out cc (Or.inl hcc))
              · obtain ⟨cur, hcur⟩ := hinv.ltK cc hcc
                exact (keepB cc cur _ hcur (by decide)).trans (HUX.out cc (Or.inr hcc))
            · have h1 : wr.heap.size ≤ wr.drew.heap.size := Nat.le_refl _
              omega
          case measure => simp [intOf]; omega
        · obtain rfl : k = x.args.length := by omega
          go_wp2_with fail
          go_roundg (mload stx)
          case rel =>
            have h1 := HLE.out
            have h2 := HLX.out
            rw [List.take_length] at h2
            have h3 := HNX.out
            have h4 := HMX.out
            rw [← kidsM_length bb x.args, List.take_length] at h4
            have hinv : GInv wr U' K' (stx.map (·.1)) (w.heap.size + 1 + 1) t := by
              rw [h4]
              exact HI3.out.frame HSX.out HUX.out
            exact ⟨stx, g', cap', _, _, rfl, rfl, by omega, HOX.out, HTX.out, HWTX.out, hinv, HRX.out, HBB.out⟩
          case measure =>
            have h2 := HLX.out
            rw [List.take_length] at h2
            rw [mload_snoc]
            have h3 := HNX.out
            simp only
            omega
set_option maxRecDepth 100000 in
set_option maxHeartbeats 2000000 in
theorem copyMI_any {C : Nat → Prop} {t : Tm} {v : Value} {w : World} (h : TM w C t v) (hn : t.wt ≤ 1048576) :
    Calls Tryd.prog 48 #[v] w (NewM t w) := by
  obtain ⟨tp, tc, rp, rc, p, c, rfl, hS⟩ := h
  obtain ⟨w0, hw0, hs0, hb0, r0, r1⟩ := box_new2 w (tmC t tp tc rp rc p c) #[.int .i64 0, .string ⟨#[]⟩, .string ⟨#[]⟩, .int .i64 0, .int .i64 0, .slice none 0 0, .int .i64 0, .slice none 0 0, .slice none 0 0] 35 35
  have HC := Lib.hid (growM_any (hS.stays (.of_below hb0)) hn)
  have HW := Lib.hid (And.intro hs0 (And.intro hb0 r1))
  have HWW := Lib.hid hw0
  clear hS hs0 hb0 r0 r1 hw0
  go_enter Tryd.func48, Tryd.ntmps48
  go_wp2_with fail
  rw [HWW.out]
  refine HC.out.mono ?_
  rintro e w1 ⟨v1, rfl, ⟨tp1, tc1, rp1, rc1, p1, c1, rfl, ho⟩, hb1⟩
  obtain ⟨hs0, hb0, r1⟩ := HW.out
  have r1' := (hb1.block _ (by omega)).trans r1
  obtain ⟨q0, q1, q2, q3, q4, q5, q6, q7, q8⟩ : w1.cell? ⟨w.heap.size + 1, 0, none⟩ = some (.int .i64 0) ∧ w1.cell? ⟨w.heap.size + 1, 1, none⟩ = some (.string ⟨#[]⟩) ∧ w1.cell? ⟨w.heap.size + 1, 2, none⟩ = some (.string ⟨#[]⟩) ∧ w1.cell? ⟨w.heap.size + 1, 3, none⟩ = some (.int .i64 0) ∧ w1.cell? ⟨w.heap.size + 1, 4, none⟩ = some (.int .i64 0) ∧ w1.cell? ⟨w.heap.size + 1, 5, none⟩ = some (.slice none 0 0) ∧ w1.cell? ⟨w.heap.size + 1, 6, none⟩ = some (.int .i64 0) ∧ w1.cell? ⟨w.heap.size + 1, 7, none⟩ = some (.slice none 0 0) ∧ w1.cell? ⟨w.heap.size + 1, 8, none⟩ = some (.slice none 0 0) := ⟨cell_of_blk r1' 0, cell_of_blk r1' 1, cell_of_blk r1' 2, cell_of_blk r1' 3, cell_of_blk r1' 4, cell_of_blk r1' 5, cell_of_blk r1' 6, cell_of_blk r1' 7, cell_of_blk r1' 8⟩
  have qz := unfrozen_of_blk r1'
  have HO := Lib.hid ho
  have HB := Lib.hid (hb0.trans (hb1.mono hb0.size))
  clear ho hb1 hs0 hb0 r1 r1'
  go_wp2_with fail
  refine bodyPost_ret (v := tmV t tp1 tc1 rp1 rc1 p1 c1) ?_ rfl ?_
  · rw [results_cell1 rfl]
    go_simp
  · have hs0 := HW.out.1
    have hst := setN_stays (tmL t tp1 tc1 rp1 rc1 p1 c1) (fun z => w0.heap.size ≤ z) w1 (w.heap.size + 1) 0 (by omega)
    have hbl := setN_below (tmL t tp1 tc1 rp1 rc1 p1 c1) w.heap.size w1 (w.heap.size + 1) 0 (by omega)
    have hsz := setN_size (tmL t tp1 tc1 rp1 rc1 p1 c1) w1 (w.heap.size + 1) 0
    simp only [tmL, setN, Nat.zero_add, Nat.reduceAdd] at hst hbl hsz
    exact ⟨_, rfl, ⟨tp1, tc1, rp1, rc1, p1, c1, rfl, (HO.out.stays (hst.mono (fun z hz => hz.1))).mono (fun z hz => ⟨by omega, by rw [hsz]; exact hz.2⟩)⟩, HB.out.trans hbl⟩
end Go.Proofs.YtfeijijeohfpgaaDoor
namespace Go.Proofs.YtfeijijeohfpgaaDoor
open Go Go.RowKit

variable {C : Nat → Prop} {t : Tm} {v : Value} {w : World}
set_option maxRecDepth 100000 in
set_option maxHeartbeats 2000000 in
theorem cpI_any (hka : KA w) (h : TM w C t v) (hn : t.wt ≤ 1048576) : Calls Tryd.prog 24 #[v] w (PairI (CpIs t) w) := by
  have HKA := Lib.hid (fun (w' : World) (hb : Below w.heap.size w w') => hka.below hb)
  clear hka
  have HN := Lib.hid hn
  obtain ⟨tp, tc, rp, rc, p, c, rfl, hT⟩ := h
  obtain ⟨wl, hwl, hsz, hbl, q0, q1⟩ := box_new2 w (tmC t tp tc rp rc p c) #[.int .i64 0, .string ⟨#[]⟩, .string ⟨#[]⟩, .int .i64 0, .int .i64 0, .slice none 0 0, .int .i64 0, .slice none 0 0, .slice none 0 0] 35 35
  have HT := Lib.hid hT
  have HWL := Lib.hid hwl
  have HSZ := Lib.hid hsz
  have HBL := Lib.hid hbl
  have HX := Lib.hid (fun (W : World) (hW : Below wl.heap.size wl W) => Bx9.of ((hW.block w.heap.size (by omega)).trans q0))
  have HY := Lib.hid (fun (W : World) (hW : Below wl.heap.size wl W) => show W.cell? ⟨w.heap.size + 1, 0, none⟩ = some (.int .i64 0) ∧ W.cell? ⟨w.heap.size + 1, 1, none⟩ = some (.string ⟨#[]⟩) ∧ W.cell? ⟨w.heap.size + 1, 2, none⟩ = some (.string ⟨#[]⟩) ∧ W.cell? ⟨w.heap.size + 1, 3, none⟩ = some (.int .i64 0) ∧ W.cell? ⟨w.heap.size + 1, 4, none⟩ = some (.int .i64 0) ∧ W.cell? ⟨w.heap.size + 1, 5, none⟩ = some (.slice none 0 0) ∧ W.cell? ⟨w.heap.size + 1, 6, none⟩ = some (.int .i64 0) ∧ W.cell? ⟨w.heap.size + 1, 7, none⟩ = some (.slice none 0 0) ∧ W.cell? ⟨w.heap.size + 1, 8, none⟩ = some (.slice none 0 0) ∧ ∀ i, W.frozen? ⟨w.heap.size + 1, i, none⟩ = false from by
    have h := (hW.block (w.heap.size + 1) (by omega)).trans q1
    exact ⟨cell_of_blk h 0, cell_of_blk h 1, cell_of_blk h 2, cell_of_blk h 3, cell_of_blk h 4, cell_of_blk h 5, cell_of_blk h 6, cell_of_blk h 7, cell_of_blk h 8, unfrozen_of_blk h⟩)
  clear hT hn hwl hsz hbl q0 q1
  go_enter Tryd.func24, Tryd.ntmps24
  go_upto_region 1 with fail
  rw [HWL.out]
  obtain ⟨g0, g1, g2, g3, g4, g5, g6, g7, g8⟩ := HX.out wl (Below.refl _ _)
  obtain ⟨y0, y1, y2, y3, y4, y5, y6, y7, y8, yz⟩ := HY.out wl (Below.refl _ _)
  by_cases hk : t.kind = 10
  · have t1 : (t.kind != 10) = false := by rw [hk]; rfl
    have HK := Lib.hid hk
    clear hk
    go_wp2_with fail
    refine (rslI_any (HKA.out _ HBL.out) ⟨_, _, _, _, _, _, rfl, HT.out.stays (.of_below HBL.out)⟩ (Nat.le_trans HN.out (by decide))).mono ?_
    rintro e w1 ⟨r, hr, rfl, hb1⟩
    have HR := Lib.hid hr
    have HB1 := Lib.hid hb1
    clear g0 g1 g2 g3 g4 g5 g6 g7 g8 y0 y1 y2 y3 y4 y5 y6 y7 y8 yz
    obtain ⟨g0, g1, g2, g3, g4, g5, g6, g7, g8⟩ := HX.out w1 hb1
    obtain ⟨y0, y1, y2, y3, y4, y5, y6, y7, y8, yz⟩ := HY.out w1 hb1
    clear hr hb1
    cases r with
    | false =>
      go_wp2_with fail
      refine bodyPost_ret (v := .tuple #[tmV noM none 0 none 0 none 0, .bool false]) ?_ rfl ?_
      · rw [results_ct rfl]
        go_simp
        all_goals (repeat' apply And.intro) <;> rfl
      · exact pair_noneI (HBL.out.trans (HB1.out.mono HBL.out.size)) (Or.inr ⟨fun h => (by have := HR.out.2 h.1; cases this), rfl, rfl⟩)
    | true =>
      obtain ⟨x, hx⟩ := List.length_eq_one_iff.1 (isT_one ((isT_node t).1 (HR.out.1 rfl).1).1 (Or.inl HK.out))
      obtain ⟨b, o, tp2, tc2, rp2, rc2, p2, c2, rfl, hC, hb, h9, hP⟩ := tm_part HT.out.args 0 (by rw [hx]; simp)
      have hx0 : t.args[0]'(by rw [hx]; simp) = x := by simp [hx]
      rw [hx0] at h9 hP
      simp only [Nat.zero_mul, Nat.add_zero] at h9
      have hl1 : t.args.length = 1 := by rw [hx]; rfl
      have hwx : x.wt ≤ 1048576 := by have h1 := t.wt_eq; rw [hx] at h1; simp only [wtS] at h1; have := HN.out; omega
      have HCP := Lib.hid (show CpIs t x true from Or.inl ⟨HR.out.1 rfl, HK.out, hx, rfl⟩)
      obtain ⟨a0, a1, a2, a3, a4, a5, a6, a7, a8⟩ := h9 w1 (.of_below (HBL.out.trans (HB1.out.mono HBL.out.size)))
      have hP1 := hP.stays (.of_below (HBL.out.trans (HB1.out.mono HBL.out.size)))
      have l8 := g8
      rw [hl1] at l8
      have HCC := Lib.hid (copyMI_any (v := tmV x tp2 tc2 rp2 rc2 p2 c2) (⟨_, _, _, _, _, _, rfl, hP1⟩ : TM w1 C x _) hwx)
      clear g8 hx hx0 hl1 hC hb h9 hP hP1
      go_wp2_with fail
      refine HCC.out.mono ?_
      rintro e w2 ⟨v2, rfl, ⟨tp3, tc3, rp3, rc3, p3, c3, rfl, hN⟩, hb2⟩
      have HN2 := Lib.hid hN
      have HB2 := Lib.hid (HB1.out.trans (hb2.mono HB1.out.size))
      have HL := Lib.hid HB1.out.size
      clear g0 g1 g2 g3 g4 g5 g6 g7 y0 y1 y2 y3 y4 y5 y6 y7 y8 yz
      obtain ⟨y0, y1, y2, y3, y4, y5, y6, y7, y8, yz⟩ := HY.out w2 HB2.out
      clear hN hb2 a0 a1 a2 a3 a4 a5 a6 a7 a8 l8
      go_wp2_with fail
      refine bodyPost_ret (v := .tuple #[tmV x tp3 tc3 rp3 rc3 p3 c3, .bool true]) ?_ rfl ?_
      · rw [results_ct rfl]
        go_simp
        all_goals (repeat' apply And.intro) <;> rfl
      · exact pair_yesI (HBL.out.trans (HB2.out.mono HBL.out.size)) HN2.out (fun z hz => by have h1 := HL.out; have h2 := HSZ.out; (try dsimp only at hz); omega) HCP.out
  · have t1 : (t.kind != 10) = true := by simp [hk]
    have HK := Lib.hid hk
    clear hk
    go_wp2_with fail
    refine bodyPost_ret (v := .tuple #[tmV noM none 0 none 0 none 0, .bool false]) ?_ rfl ?_
    · rw [results_ct rfl]
      go_simp
      all_goals (repeat' apply And.intro) <;> rfl
    · exact pair_noneI HBL.out (Or.inr ⟨fun h => HK.out h.2, rfl, rfl⟩)
end Go.Proofs.YtfeijijeohfpgaaDoor
namespace Go.Proofs.YtfeijijeohfpgaaDoor
open Go Go.RowKit

set_option maxRecDepth 100000 in
set_option maxHeartbeats 8000000 in
theorem lawCodePart {C : Nat → Prop} (t : Tm) (v : Value) (w : World) (hka : KA w) (h : TM w C t v) (hf : t.fit) :
    Calls Tryd.prog 8 #[v] w fun e w' => e = .returned (.bool true) ∧ Below w.heap.size w w' := by
  have HKA := Lib.hid (fun (w' : World) (hb : Below w.heap.size w w') => hka.below hb)
  clear hka
  have HT := Lib.hid (fun w' (hb : Below w.heap.size w w') => h.keep hb)
  obtain ⟨tp, tc, rp, rc, p, c, rfl, _⟩ := h
  have HB0 := Lib.hid (al_below w (.cells (tmC t tp tc rp rc p c) 27))
  have HX0 := Lib.hid (Bx9.new w t tp tc rp rc p c 27)
  go_enter Tryd.func8, Tryd.ntmps8
  go_wp2_with fail
  refine (szM_any (HT.out _ HB0.out) hf 1048576 (by omega) (by omega)).mono ?_
  rintro e w1 ⟨r, hr, rfl, hb1⟩
  have HX1 := Lib.hid (HX0.out.keep hb1)
  have HB1 := Lib.hid (HB0.out.trans (hb1.mono HB0.out.size))
  have HR := Lib.hid hr
  clear hr hb1
  by_cases h0 : r < 0
  · go_wp2_with fail
    go_ret
    exact ⟨rfl, HB1.out⟩
  have hn : t.wt ≤ 1048576 := by have := HR.out; unfold SzEnds at this; omega
  have hn2 : t.wt ≤ 2097152 := by omega
  obtain ⟨g0, g1, g2, g3, g4, g5, g6, g7, g8⟩ := HX1.out
  go_wp2_with fail
  refine (toM_any (HT.out _ HB1.out) hn).mono ?_
  rintro e w2 ⟨v1, rfl, ho1, hb2⟩
  have HO1 := Lib.hid ho1
  have HB2 := Lib.hid (HB1.out.trans (hb2.mono HB1.out.size))
  have HX2 := Lib.hid (HX1.out.keep hb2)
  clear ho1 hb2 g0 g1 g2 g3 g4 g5 g6 g7 g8
  go_wp2_with fail
  refine (cpS_at HO1.out.tm hn).mono ?_
  rintro e w3 ⟨T, ok, v2, rfl, hP, ⟨tp2, tc2, rp2, rc2, p2, c2, rfl, hw⟩, hb3⟩
  have hTw : T.wt ≤ 1048577 := by have := cp_wt hP; omega
  have hcn := T.cntT_wt
  have hct := t.cntT_wt
  have HP := Lib.hid hP
  have HB3 := Lib.hid (HB2.out.trans (hb3.mono HB2.out.size))
  have HW := Lib.hid (hw.mono (C' := (· < w3.heap.size)) (fun b _ hl => hl))
  have hba := al_below w3 (.cells (tmC T tp2 tc2 rp2 rc2 p2 c2) 35)
  have HBA := Lib.hid hba
  have hx := ((HX2.out.keep hb3).keep hba)
  have HX3 := Lib.hid hx
  have HW4 := Lib.hid (Bx9.new w3 T tp2 tc2 rp2 rc2 p2 c2 35)
  obtain ⟨g0, g1, g2, g3, g4, g5, g6, g7, g8⟩ := hx
  have HB3a := Lib.hid (HB3.out.trans (hba.mono HB3.out.size))
  clear hw hb3 hba hP
  go_wp2_with fail
  refine (toM_any (HT.out _ HB3a.out) hn).mono ?_
  rintro e w4 ⟨v3, rfl, ⟨tp3, tc3, rp3, rc3, p3, c3, rfl, ho3⟩, hb4⟩
  have HO3 := Lib.hid ho3
  have HB4w := Lib.hid hb4
  have hba := al_below w4 (.cells (tmC t tp3 tc3 rp3 rc3 p3 c3) 35)
  have HBA4 := Lib.hid hba
  have hx := Bx9.new w4 t tp3 tc3 rp3 rc3 p3 c3 35
  have HX5 := Lib.hid hx
  have HTA := Lib.hid (⟨_, _, _, _, _, _, rfl, (ho3.keep hba).tm⟩ : TM (w4.alloc (.cells (tmC t tp3 tc3 rp3 rc3 p3 c3) 35)) _ t (tmV t tp3 tc3 rp3 rc3 p3 c3))
  have HB4 := Lib.hid (HB3a.out.trans (hb4.mono HB3a.out.size))
  have HB4a := Lib.hid (HB4.out.trans (hba.mono HB4.out.size))
  clear g0 g1 g2 g3 g4 g5 g6 g7 g8 ho3 hb4 hba
  obtain ⟨g0, g1, g2, g3, g4, g5, g6, g7, g8⟩ := hx
  go_wp2_with fail
  refine (cpI_any (HKA.out _ HB4a.out) HTA.out hn).mono ?_
  rintro e w5 ⟨T4, ok4, v4, rfl, hP4, ⟨tp4, tc4, rp4, rc4, p4, c4, rfl, ho4⟩, hb5⟩
  obtain ⟨rfl, rfl⟩ := cp_one HP.out hP4
  have hba := al_below w5 (.cells (tmC T tp4 tc4 rp4 rc4 p4 c4) 35)
  obtain ⟨w5b, hw5⟩ : ∃ w5b, w5.alloc (.cells (tmC T tp4 tc4 rp4 rc4 p4 c4) 35) = w5b := ⟨_, rfl⟩
  have hs3 : (w3.alloc (.cells (tmC T tp2 tc2 rp2 rc2 p2 c2) 35)).heap.size = w3.heap.size + 1 := by simp
  have hs4 : (w4.alloc (.cells (tmC t tp3 tc3 rp3 rc3 p3 c3) 35)).heap.size = w4.heap.size + 1 := by simp
  have hs5 : w5b.heap.size = w5.heap.size + 1 := by rw [← hw5]; simp
  have l34 := HB4w.out.size
  have l45 := hb5.size
  have lw3 := HB3.out.size
  rw [hs3] at l34
  rw [hs4] at l45
  have XX6 : Bx9 w5b w5.heap.size T tp4 tc4 rp4 rc4 p4 c4 := hw5 ▸ Bx9.new w5 T tp4 tc4 rp4 rc4 p4 c4 35
  rw [hw5] at hba
  have hb5b := (hb5.trans (hba.mono hb5.size))
  have XX5 := (HX5.out.keep hb5b)
  have hb3b := (HB4w.out.trans ((HBA4.out.trans (hb5b.mono HBA4.out.size)).mono HB4w.out.size))
  have XX4 := HW4.out.keep hb3b
  have XX1 := HX3.out.keep hb3b
  have WW : TM w5b (· < w3.heap.size) T (tmV T tp2 tc2 rp2 rc2 p2 c2) := ⟨_, _, _, _, _, _, rfl, ((HW.out.stays (.of_below HBA.out)).stays (.of_below hb3b))⟩
  have AA : OMv w5b t (tmV t tp3 tc3 rp3 rc3 p3 c3) (fun z => w3.heap.size + 1 ≤ z ∧ z < w4.heap.size) := ⟨_, _, _, _, _, _, rfl, ((HO3.out.keep HBA4.out).keep hb5b).mono (fun z hz => by rw [hs3] at hz; exact hz)⟩
  have GG : OMv w5b T (tmV T tp4 tc4 rp4 rc4 p4 c4) (fun z => w4.heap.size + 1 ≤ z ∧ z < w5.heap.size) := ⟨_, _, _, _, _, _, rfl, (ho4.keep hba).mono (fun z hz => by rw [hs4] at hz; exact hz)⟩
  have BB : Below w.heap.size w w5b := HB4a.out.trans (hb5b.mono HB4a.out.size)
  have H1 := Lib.hid XX1
  have H4 := Lib.hid XX4
  have H5 := Lib.hid XX5
  have H6 := Lib.hid XX6
  have HWW := Lib.hid WW
  have HAA := Lib.hid AA
  have HGG := Lib.hid GG
  have HBB := Lib.hid BB
  have HL := Lib.hid (And.intro l34 (And.intro l45 (And.intro lw3 hs5)))
  have HW5 := Lib.hid hw5
  obtain ⟨f0, f1, f2, f3, f4, f5, f6, f7, f8⟩ := XX4
  obtain ⟨d0, d1, d2, d3, d4, d5, d6, d7, d8⟩ := XX6
  rw [← hw5] at f0 f1 f2 f3 f4 f5 f6 f7 f8 d0 d1 d2 d3 d4 d5 d6 d7 d8
  have HEQ := Lib.hid (eqM_any GG.tm WW)
  rw [← hw5] at HEQ
  clear g0 g1 g2 g3 g4 g5 g6 g7 g8 ho4 hb5 hba hw5 hs3 hs4 hs5 l34 l45 lw3 XX1 XX5 WW AA GG BB hb5b hb3b hP4
  go_wp2_with fail
  refine HEQ.out.mono ?_
  rintro e w6 ⟨b6, he6, rfl, hb6⟩
  rw [HW5.out] at hb6
  obtain rfl : b6 = true := by simpa using he6
  have HS6 := Lib.hid hb6
  have HB6 := Lib.hid (HBB.out.trans (hb6.mono HBB.out.size))
  clear f0 f1 f2 f3 f4 f5 f6 f7 f8 d0 d1 d2 d3 d4 d5 d6 d7 d8
  obtain ⟨g0, g1, g2, g3, g4, g5, g6, g7, g8⟩ := H1.out.keep hb6
  obtain ⟨d0, d1, d2, d3, d4, d5, d6, d7, d8⟩ := H5.out.keep hb6
  have HAX := Lib.hid (fun (W : World) (hW : Below w6.heap.size w6 W) => HAA.out.tm.keep (HS6.out.trans (hW.mono HS6.out.size)))
  clear he6 hb6 HEQ
  go_wp2_with fail
  go_region_held3 (fun w' => w'.cell? ⟨w.heap.size, 0, none⟩ = some (.int .i64 t.kind) ∧ w'.cell? ⟨w.heap.size, 1, none⟩ = some (.string t.name) ∧ w'.cell? ⟨w.heap.size, 2, none⟩ = some (.string t.other) ∧ w'.cell? ⟨w.heap.size, 3, none⟩ = some (.int .i64 t.n) ∧ w'.cell? ⟨w.heap.size, 4, none⟩ = some (.int .i64 t.ty.kind) ∧ w'.cell? ⟨w.heap.size, 5, none⟩ = some (.slice tp t.ty.args.length tc) ∧ w'.cell? ⟨w.heap.size, 6, none⟩ = some (.int .i64 t.res.kind) ∧ w'.cell? ⟨w.heap.size, 7, none⟩ = some (.slice rp t.res.args.length rc) ∧ w'.cell? ⟨w.heap.size, 8, none⟩ = some (.slice p t.args.length c) ∧ w'.cell? ⟨w4.heap.size, 0, none⟩ = some (.int .i64 t.kind) ∧ w'.cell? ⟨w4.heap.size, 1, none⟩ = some (.string t.name) ∧ w'.cell? ⟨w4.heap.size, 2, none⟩ = some (.string t.other) ∧ w'.cell? ⟨w4.heap.size, 3, none⟩ = some (.int .i64 t.n) ∧ w'.cell? ⟨w4.heap.size, 4, none⟩ = some (.int .i64 t.ty.kind) ∧ w'.cell? ⟨w4.heap.size, 5, none⟩ = some (.slice tp3 t.ty.args.length tc3) ∧ w'.cell? ⟨w4.heap.size, 6, none⟩ = some (.int .i64 t.res.kind) ∧ w'.cell? ⟨w4.heap.size, 7, none⟩ = some (.slice rp3 t.res.args.length rc3) ∧ w'.cell? ⟨w4.heap.size, 8, none⟩ = some (.slice p3 t.args.length c3) ∧ Below w6.heap.size w6 w')
    (first
      | (go_keep; done)
      | exact ⟨g0, g1, g2, g3, g4, g5, g6, g7, g8, d0, d1, d2, d3, d4, d5, d6, d7, d8, (Below.refl _ _).drew⟩
      | exact keep18 hb8 (by assumption)
      | exact keep18 hb7 (by assumption))
    (first
      | (go_at_call 12; refine (toM_any (HT.out _ (HB6.out.trans (((Below.refl _ _).drew).mono HB6.out.size))) hn).mono ?_; rintro e w7 ⟨v7, rfl, ho7, hb7⟩)
      | (go_at_call 14; refine (eqM_any (HAX.out _ (((Below.refl _ _).drew.trans hb7))) ho7.tm).mono ?_; rintro e w8 ⟨b8, he8, rfl, hb8⟩))
  rename_i hH
  have hbl := hH.2.2.2.2.2.2.2.2.2.2.2.2.2.2.2.2.2.2
  obtain rfl : b8 = true := by simpa using he8
  have S8 := HS6.out.trans (hbl.mono HS6.out.size)
  have HS8 := Lib.hid S8
  have HB8 := Lib.hid (HBB.out.trans (S8.mono HBB.out.size))
  clear g0 g1 g2 g3 g4 g5 g6 g7 g8 d0 d1 d2 d3 d4 d5 d6 d7 d8
  obtain ⟨d0, d1, d2, d3, d4, d5, d6, d7, d8⟩ := H5.out.keep S8
  obtain ⟨m, hm⟩ : ∃ m : Nat, 1 + t.cntT = m := ⟨_, rfl⟩
  have hM := markTm_any (HAA.out.keep S8) 1 (Nat.le_refl _) (by omega)
  rw [hm] at hM
  have HM := Lib.hid (show Calls Tryd.prog 25 #[(tmV t tp3 tc3 rp3 rc3 p3 c3), .int .i64 1] w8 _ from hM)
  have hmm : ¬ ((m : Int) < 0) := by omega
  clear hH hbl he8 hb8 hb7 ho7 S8 hM hm
  go_wp2_with fail
  refine HM.out.mono ?_
  rintro e w9 ⟨rfl, _, hbt9⟩
  obtain ⟨l34, l45, lw3, hs5⟩ := HL.out
  have S9 : Stays (fun z => z < w3.heap.size + 1 ∨ (w4.heap.size ≤ z ∧ z < w5.heap.size + 1)) w5b w9 := (Stays.of_below HS8.out).trans (hbt9.stays (fun z h1 h2 => by omega))
  have B9 : Below w.heap.size w w9 := HB8.out.trans (hbt9.below _ HB8.out.size (fun z hz => by omega))
  have HS9 := Lib.hid S9
  have HB9 := Lib.hid B9
  clear d0 d1 d2 d3 d4 d5 d6 d7 d8
  obtain ⟨f0, f1, f2, f3, f4, f5, f6, f7, f8⟩ := H4.out.at (S9.2 _ (by show w3.heap.size < _ ∨ _; omega) (by omega))
  obtain ⟨d0, d1, d2, d3, d4, d5, d6, d7, d8⟩ := H6.out.at (S9.2 _ (by show _ ∨ (_ ∧ w5.heap.size < _); omega) (by omega))
  have HEQ := Lib.hid (eqM_any (HGG.out.stays (S9.mono (fun z hz => by omega))).tm (HWW.out.stays (S9.mono (fun z hz => by omega))))
  clear hbt9 S9 B9 l34 l45 lw3 hs5
  go_wp2_with fail
  refine HEQ.out.mono ?_
  rintro e w10 ⟨b10, he10, rfl, hb10⟩
  obtain rfl : b10 = true := by simpa using he10
  obtain ⟨l34, l45, lw3, hs5⟩ := HL.out
  have S10 := HS9.out.trans (.of_below hb10)
  have HS10 := Lib.hid S10
  have HB10 := Lib.hid (HB9.out.trans (hb10.mono HB9.out.size))
  clear f0 f1 f2 f3 f4 f5 f6 f7 f8 d0 d1 d2 d3 d4 d5 d6 d7 d8
  obtain ⟨d0, d1, d2, d3, d4, d5, d6, d7, d8⟩ := H6.out.at (S10.2 _ (by show _ ∨ (_ ∧ w5.heap.size < _); omega) (by omega))
  obtain ⟨n, hn2'⟩ : ∃ n : Nat, 1 + T.cntT = n := ⟨_, rfl⟩
  have HN := Lib.hid hn2'
  have hM := markTm_any (HGG.out.stays (S10.mono (fun z hz => by omega))) 1 (Nat.le_refl _) (by omega)
  rw [hn2'] at hM
  have HM2 := Lib.hid (show Calls Tryd.prog 25 #[(tmV T tp4 tc4 rp4 rc4 p4 c4), .int .i64 1] w10 _ from hM)
  have hnn : ¬ ((n : Int) < 0) := by omega
  clear he10 hb10 S10 hM hn2' l34 l45 lw3 hs5 HEQ
  go_wp2_with fail
  refine HM2.out.mono ?_
  rintro e w11 ⟨rfl, hO, hbt11⟩
  obtain ⟨l34, l45, lw3, hs5⟩ := HL.out
  have S11 : Stays (fun z => z < w3.heap.size + 1 ∨ z = w5.heap.size) w5b w11 := ((HS10.out.mono (fun z hz => by omega))).trans (hbt11.stays (fun z h1 h2 => by omega))
  have B11 : Below w.heap.size w w11 := HB10.out.trans (hbt11.below _ HB10.out.size (fun z hz => by omega))
  have HS11 := Lib.hid S11
  have HB11 := Lib.hid B11
  have HO11 := Lib.hid hO
  clear d0 d1 d2 d3 d4 d5 d6 d7 d8
  obtain ⟨d0, d1, d2, d3, d4, d5, d6, d7, d8⟩ := H6.out.at (S11.2 _ (Or.inr rfl) (by omega))
  have hH1 := heldTm_any hO.tm (Nat.le_refl _) (by omega)
  rw [HN.out] at hH1
  have HH1 := Lib.hid (show Calls Tryd.prog 26 #[(tmV T tp4 tc4 rp4 rc4 p4 c4), .int .i64 1] w11 _ from hH1)
  clear hbt11 S11 B11 hO hH1 l34 l45 lw3 hs5
  go_wp2_with fail
  refine HH1.out.mono ?_
  rintro e w12 ⟨r12, rfl, rfl, hb12⟩
  have HB12w := Lib.hid hb12
  have HB12 := Lib.hid (HB11.out.trans (hb12.mono HB11.out.size))
  have S12 := HS11.out.trans (.of_below hb12)
  obtain ⟨l34, l45, lw3, hs5⟩ := HL.out
  obtain ⟨g0, g1, g2, g3, g4, g5, g6, g7, g8⟩ := H1.out.at (S12.2 _ (Or.inl (by have := HBB.out.size; omega)) (by have := HBB.out.size; omega))
  clear d0 d1 d2 d3 d4 d5 d6 d7 d8 hb12 S12 l34 l45 lw3 hs5
  go_wp2_with fail
  refine (toM_any (HT.out _ HB12.out) hn).mono ?_
  rintro e w13 ⟨v13, rfl, ho13, hb13⟩
  have HO13 := Lib.hid ho13
  have HB13 := Lib.hid (hb13)
  have HB13f := Lib.hid (HB12.out.trans (hb13.mono HB12.out.size))
  clear ho13 hb13 g0 g1 g2 g3 g4 g5 g6 g7 g8
  go_wp2_with fail
  refine (cpI_any (HKA.out _ HB13f.out) HO13.out.tm hn).mono ?_
  rintro e w14 ⟨T5, ok5, v14, rfl, hP5, ⟨tp5, tc5, rp5, rc5, p5, c5, rfl, ho14⟩, hb14⟩
  obtain ⟨rfl, rfl⟩ := cp_one HP.out hP5
  have hba := al_below w14 (.cells (tmC T tp5 tc5 rp5 rc5 p5 c5) 35)
  have hb12b := HB13.out.trans ((hb14.trans (hba.mono hb14.size)).mono HB13.out.size)
  have HB12b := Lib.hid hb12b
  have S14 := (HS11.out.trans (.of_below HB12w.out)).trans (.of_below hb12b)
  obtain ⟨l34, l45, lw3, hs5⟩ := HL.out
  have HEQ := Lib.hid (eqM_any (⟨_, _, _, _, _, _, rfl, (ho14.keep hba).tm⟩ : TM (w14.alloc (.cells (tmC T tp5 tc5 rp5 rc5 p5 c5) 35)) _ T (tmV T tp5 tc5 rp5 rc5 p5 c5)) (HWW.out.stays (S14.mono (fun z hz => by omega))))
  obtain ⟨f0, f1, f2, f3, f4, f5, f6, f7, f8⟩ := H4.out.at (S14.2 _ (Or.inl (by omega)) (by omega))
  obtain ⟨d0, d1, d2, d3, d4, d5, d6, d7, d8⟩ := Bx9.new w14 T tp5 tc5 rp5 rc5 p5 c5 35
  have HS14 := Lib.hid S14
  clear ho14 hb14 hba hb12b S14 l34 l45 lw3 hs5 hP5
  go_wp2_with fail
  refine HEQ.out.mono ?_
  rintro e w15 ⟨b15, he15, rfl, hb15⟩
  obtain rfl : b15 = true := by simpa using he15
  have S15 := HS14.out.trans (.of_below hb15)
  have b11 := HB12w.out.trans (((HB12b.out.trans (hb15.mono HB12b.out.size))).mono HB12w.out.size)
  have HB15 := Lib.hid (HB11.out.trans (b11.mono HB11.out.size))
  have hl5 := HL.out.2.2.2
  clear f0 f1 f2 f3 f4 f5 f6 f7 f8 d0 d1 d2 d3 d4 d5 d6 d7 d8
  obtain ⟨d0, d1, d2, d3, d4, d5, d6, d7, d8⟩ := H6.out.at (S15.2 _ (Or.inr rfl) (by omega))
  have hH1 := heldTm_any (HO11.out.tm.keep b11) (Nat.le_refl _) (by have := HN.out; omega)
  rw [HN.out] at hH1
  have HH2 := Lib.hid (show Calls Tryd.prog 26 #[(tmV T tp4 tc4 rp4 rc4 p4 c4), .int .i64 1] w15 _ from hH1)
  clear he15 hb15 S15 b11 hH1 HEQ hl5
  go_wp2_with fail
  refine HH2.out.mono ?_
  rintro e w16 ⟨r16, rfl, rfl, hb16⟩
  have HB16 := Lib.hid (HB15.out.trans (hb16.mono HB15.out.size))
  clear d0 d1 d2 d3 d4 d5 d6 d7 d8 hb16
  go_wp2_with fail
  go_ret
  exact ⟨rfl, HB16.out⟩
end Go.Proofs.YtfeijijeohfpgaaDoor
namespace Go.Proofs.YtfeijijeohfpgaaDoor
open Go Go.ChangeShapes Go.WideShapes Go.ChangeAt Go.RowKit

section
variable {H : Type} {enc : TypeId × Value → H} {P : Program}
theorem trodAll_below (hl : laidOutB P = true) {W W' : World} (hb : Below W.heap.size W W') : ∀ (ts : List TypeId) (vs : List Value) (ds : List (DataW H)) (ps : List MemPlace),
    (∀ t ∈ ts, P.readableRec t = true ∧ t < P.types.size) → DataW.TrodAll enc P W 0 (fun _ => true) true ts vs ds ps → (∀ x ∈ ps, x.block < W.heap.size) →
    DataW.TrodAll enc P W' 0 (fun b => decide (b < W.heap.size)) true ts vs ds ps
  | [], [], [], _, _, h, _ => h
  | t :: ts, v :: vs, d :: ds, ps, hr, h, hlt => by
    obtain ⟨p, q, h1, h2, rfl⟩ := h
    have ht := hr t (List.mem_cons_self ..)
    exact ⟨p, q, Below.trod hl ht.1 ht.2 h1 hb (fun x hx => hlt x (List.mem_append_left _ hx)), trodAll_below hl hb ts vs ds q (fun u hu => hr u (List.mem_cons_of_mem _ hu)) h2 (fun x hx => hlt x (List.mem_append_right _ hx)), rfl⟩
  | [], _ :: _, _, _, _, h, _ => h.elim
  | [], [], _ :: _, _, _, h, _ => h.elim
  | _ :: _, [], _, _, _, h, _ => h.elim
  | _ :: _, _ :: _, [], _, _, h, _ => h.elim

end
end Go.Proofs.YtfeijijeohfpgaaDoor
namespace Go.Proofs.YtfeijijeohfpgaaDoor
open Go Go.ChangeShapes Go.WideShapes Go.ChangeAt Go.RowKit

section
variable {H : Type} {enc : TypeId × Value → H} {P : Program}

theorem law_postV {f : Func} {s : ChangeSpec} {W W' : World} {args : Array Value} {ds gs : List (DataW H)} {before : List MemPlace} {tb : TypeId} (hl : laidOutB P = true)
    (hts : (f.params.toList.all fun t => P.readableRec t && decide (t < P.types.size)) = true) (hbool : P.underlying tb = some .bool) (hres : f.resultTypes = #[tb]) (hvars : varsRowed P s.vars = true)
    (hW : DataW.Whole enc P f.params.toList s.vars false W args.toList ds gs before) (hr : (s.fn H (ds ++ gs)).results = [.lit (.bool true)]) (ha : (s.fn H (ds ++ gs)).args = ds) (hv : (s.fn H (ds ++ gs)).vars = gs)
    (hb : Below W.heap.size W W') : s.post enc P f false true false false W args (.bool true) W' := by
  have hW0 := hW
  obtain ⟨p, q, hA, hV, rfl, hfz, _⟩ := hW
  have hlt : ∀ x ∈ p, x.block < W.heap.size := fun x hx => hW0.lt x (List.mem_append_left _ hx)
  refine ⟨ds, gs, p ++ q, [], p, q, hW0, ?_, ?_, ?_, hb.frame _, fun h => by cases h⟩
  · rw [hr, hres]
    exact trodAll_mk1 (shut_bool hbool _)
  · rw [ha]
    refine trodAll_below hl hb _ _ _ _ (fun t ht => ?_) hA hlt
    have := List.all_eq_true.1 hts t ht
    simp only [Bool.and_eq_true, decide_eq_true_eq] at this
    exact this
  · rw [hv]
    exact Below.trodVars hl hb hvars hV
end
end Go.Proofs.YtfeijijeohfpgaaDoor
