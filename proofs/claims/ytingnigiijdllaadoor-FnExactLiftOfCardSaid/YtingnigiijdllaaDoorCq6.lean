/-
  Several texts of the proof in one (each says below what it holds): TmSpecCopy GnodeC GrM GrN ErC GrowC.
-/
import Derived.Test.YtingnigiijdllaaDoorCq5
import Derived.Test.YtingnigiijdllaaDoorCq4
import Derived.Test.YtingnigiijdllaaDoorCq2
import Derived.Test.YtingnigiijdllaaDoorCq3
import Derived.Test.YtingnigiijdllaaDoorCq1
import Derived.Deep.RegionHeld3
import Derived.Deep.CutRange
set_option linter.unusedVariables false
set_option linter.unusedSimpArgs false
namespace Go.Proofs.YtingnigiijdllaaDoor
open Go Go.RowKit

theorem cp_keep {wl W W' : World} {a : Nat} {v0 v1 v2 v3 v4 v5 v6 v7 : Value} (hb : Below W.heap.size W W') (h : Below wl.heap.size wl W ∧ W.cell? ⟨a, 0, none⟩ = some v0 ∧ W.cell? ⟨a, 1, none⟩ = some v1 ∧ W.cell? ⟨a, 2, none⟩ = some v2 ∧ W.cell? ⟨a, 3, none⟩ = some v3 ∧ W.cell? ⟨a, 4, none⟩ = some v4 ∧ W.cell? ⟨a, 5, none⟩ = some v5 ∧ W.cell? ⟨a, 6, none⟩ = some v6 ∧ W.cell? ⟨a, 7, none⟩ = some v7) : Below wl.heap.size wl W' ∧ W'.cell? ⟨a, 0, none⟩ = some v0 ∧ W'.cell? ⟨a, 1, none⟩ = some v1 ∧ W'.cell? ⟨a, 2, none⟩ = some v2 ∧ W'.cell? ⟨a, 3, none⟩ = some v3 ∧ W'.cell? ⟨a, 4, none⟩ = some v4 ∧ W'.cell? ⟨a, 5, none⟩ = some v5 ∧ W'.cell? ⟨a, 6, none⟩ = some v6 ∧ W'.cell? ⟨a, 7, none⟩ = some v7 := by
  obtain ⟨h, h0, h1, h2, h3, h4, h5, h6, h7⟩ := h
  exact ⟨h.trans (hb.mono h.size), keepN' hb h0, keepN' hb h1, keepN' hb h2, keepN' hb h3, keepN' hb h4, keepN' hb h5, keepN' hb h6, keepN' hb h7⟩
theorem cp_set {wl W : World} {a b i : Nat} {u v0 v1 v2 v3 v4 v5 v6 v7 : Value} (h : Below wl.heap.size wl W ∧ W.cell? ⟨a, 0, none⟩ = some v0 ∧ W.cell? ⟨a, 1, none⟩ = some v1 ∧ W.cell? ⟨a, 2, none⟩ = some v2 ∧ W.cell? ⟨a, 3, none⟩ = some v3 ∧ W.cell? ⟨a, 4, none⟩ = some v4 ∧ W.cell? ⟨a, 5, none⟩ = some v5 ∧ W.cell? ⟨a, 6, none⟩ = some v6 ∧ W.cell? ⟨a, 7, none⟩ = some v7) (hb : wl.heap.size ≤ b) (ha : a ≠ b) : Below wl.heap.size wl (W.setCell ⟨b, i, none⟩ u) ∧ (W.setCell ⟨b, i, none⟩ u).cell? ⟨a, 0, none⟩ = some v0 ∧ (W.setCell ⟨b, i, none⟩ u).cell? ⟨a, 1, none⟩ = some v1 ∧ (W.setCell ⟨b, i, none⟩ u).cell? ⟨a, 2, none⟩ = some v2 ∧ (W.setCell ⟨b, i, none⟩ u).cell? ⟨a, 3, none⟩ = some v3 ∧ (W.setCell ⟨b, i, none⟩ u).cell? ⟨a, 4, none⟩ = some v4 ∧ (W.setCell ⟨b, i, none⟩ u).cell? ⟨a, 5, none⟩ = some v5 ∧ (W.setCell ⟨b, i, none⟩ u).cell? ⟨a, 6, none⟩ = some v6 ∧ (W.setCell ⟨b, i, none⟩ u).cell? ⟨a, 7, none⟩ = some v7 := by
  obtain ⟨h, h0, h1, h2, h3, h4, h5, h6, h7⟩ := h
  have k : ∀ {j : Nat} {v : Value}, W.cell? ⟨a, j, none⟩ = some v → (W.setCell ⟨b, i, none⟩ u).cell? ⟨a, j, none⟩ = some v := fun hp => (World.cell?_of_block (heap_setCell_other W ⟨b, i, none⟩ a u ha)).trans hp
  exact ⟨h.setCell (p := ⟨b, i, none⟩) hb _, k h0, k h1, k h2, k h3, k h4, k h5, k h6, k h7⟩
def Cpd (wl : World) (t : Tm) (s3 : Value) (W : World) : Prop := ∃ (bx : Nat) (p1 : Option Addr) (c1 : Nat) (p2 : Option Addr) (c2 : Nat), s3 = .pointer (some ⟨bx, 0, none⟩) ∧
  W.heap[bx]? = some (.cells #[.int .i64 t.kind, .string t.name, .string t.other, .int .i64 t.n, .int .i64 t.ty.kind, .slice p1 t.ty.args.length c1, .int .i64 t.res.kind, .slice p2 t.res.args.length c2, .slice none 0 0] 35 (0, 0)) ∧ wl.heap.size ≤ bx ∧
  TS W (fun z => wl.heap.size ≤ z ∧ z ≠ bx) t.ty.args (.slice p1 t.ty.args.length c1) ∧ TS W (fun z => wl.heap.size ≤ z ∧ z ≠ bx) t.res.args (.slice p2 t.res.args.length c2) ∧ Below wl.heap.size wl W
theorem cpd_A {wl w3 w4 : World} {t : Tm} {p1 p2 : Option Addr} {c1 c2 : Nat} (hb1 : Below wl.heap.size wl w3) (hs1 : TS w3 (fun z => wl.heap.size ≤ z) t.ty.args (.slice p1 t.ty.args.length c1)) (hb2 : Below w3.heap.size w3 w4) (hs2 : TS w4 (fun z => w3.heap.size ≤ z) t.res.args (.slice p2 t.res.args.length c2)) :
    Cpd wl t (.pointer (some ⟨w4.heap.size, 0, none⟩)) (w4.alloc (.cells #[.int .i64 t.kind, .string t.name, .string t.other, .int .i64 t.n, .int .i64 t.ty.kind, .slice p1 t.ty.args.length c1, .int .i64 t.res.kind, .slice p2 t.res.args.length c2, .slice none 0 0] 35)) := by
  have l1 := hb1.size
  have l2 := hb2.size
  refine ⟨_, p1, c1, p2, c2, rfl, blk_new w4 _, by omega, ?_, ?_, (hb1.trans (hb2.mono l1)).trans ((al_below w4 _).mono (by omega))⟩
  · exact (((hs1.mono (C' := fun z => wl.heap.size ≤ z ∧ z ≠ w4.heap.size) (fun z hz hl => ⟨hz, by omega⟩)).keep hb2).keep (al_below w4 _))
  · exact ((hs2.mono (C' := fun z => wl.heap.size ≤ z ∧ z ≠ w4.heap.size) (fun z hz hl => ⟨by omega, by omega⟩)).keep (al_below w4 _))
theorem cpd_set {wl w4 : World} {t : Tm} {p1 p2 : Option Addr} {c1 c2 bx : Nat} (zb : w4.heap[bx]? = some (.cells #[.int .i64 0, .string ⟨#[]⟩, .string ⟨#[]⟩, .int .i64 0, .int .i64 0, .slice none 0 0, .int .i64 0, .slice none 0 0, .slice none 0 0] 35 (0, 0))) (hl : wl.heap.size ≤ bx) (h1 : TS w4 (fun z => wl.heap.size ≤ z ∧ z ≠ bx) t.ty.args (.slice p1 t.ty.args.length c1)) (h2 : TS w4 (fun z => wl.heap.size ≤ z ∧ z ≠ bx) t.res.args (.slice p2 t.res.args.length c2)) (hb : Below wl.heap.size wl w4) :
    Cpd wl t (.pointer (some ⟨bx, 0, none⟩)) (((((((((w4.setCell ⟨bx, 0, none⟩ (.int .i64 t.kind)).setCell ⟨bx, 1, none⟩ (.string t.name)).setCell ⟨bx, 2, none⟩ (.string t.other)).setCell ⟨bx, 3, none⟩ (.int .i64 t.n)).setCell ⟨bx, 4, none⟩ (.int .i64 t.ty.kind)).setCell ⟨bx, 5, none⟩ (.slice p1 t.ty.args.length c1)).setCell ⟨bx, 6, none⟩ (.int .i64 t.res.kind)).setCell ⟨bx, 7, none⟩ (.slice p2 t.res.args.length c2)).setCell ⟨bx, 8, none⟩ (.slice none 0 0)) := by
  have hst := setN_stays [.int .i64 t.kind, .string t.name, .string t.other, .int .i64 t.n, .int .i64 t.ty.kind, .slice p1 t.ty.args.length c1, .int .i64 t.res.kind, .slice p2 t.res.args.length c2, .slice none 0 0] (fun z => wl.heap.size ≤ z ∧ z ≠ bx) w4 bx 0 (by simp)
  have hbl := setN_below [.int .i64 t.kind, .string t.name, .string t.other, .int .i64 t.n, .int .i64 t.ty.kind, .slice p1 t.ty.args.length c1, .int .i64 t.res.kind, .slice p2 t.res.args.length c2, .slice none 0 0] wl.heap.size w4 bx 0 hl
  have hbk : (setN w4 bx 0 [.int .i64 t.kind, .string t.name, .string t.other, .int .i64 t.n, .int .i64 t.ty.kind, .slice p1 t.ty.args.length c1, .int .i64 t.res.kind, .slice p2 t.res.args.length c2, .slice none 0 0]).heap[bx]? = some (.cells #[.int .i64 t.kind, .string t.name, .string t.other, .int .i64 t.n, .int .i64 t.ty.kind, .slice p1 t.ty.args.length c1, .int .i64 t.res.kind, .slice p2 t.res.args.length c2, .slice none 0 0] 35 (0, 0)) := by
    rw [setN_block _ _ _ _ _ _ zb]
    simp [setA]
  rw [setN9] at hst hbl hbk
  exact ⟨_, p1, c1, p2, c2, rfl, hbk, hl, h1.stays hst, h2.stays hst, hb.trans hbl⟩
def CopyRet (t : Tm) (w : World) (e : Ending) (w' : World) : Prop := ∃ tp tc rp rc p c xs, e = .returned (tmV t tp tc rp rc p c) ∧ NewTm w' w.heap.size (fun z => w.heap.size ≤ z) t tp tc rp rc p c xs ∧ Below w.heap.size w w'
structure CInv (wl : World) (bx : Nat) (W : World) (t : Tm) (tp : Option Addr) (tc : Nat) (rp : Option Addr) (rc : Nat) (p : Option Addr) (c : Nat) (xs : List Value) : Prop where
  below : Below wl.heap.size wl W
  box : W.heap[bx]? = some (.cells (tmC t tp tc rp rc p c) 35 (0, 0))
  new : NewTm W wl.heap.size (fun z => wl.heap.size ≤ z ∧ z ≠ bx) t tp tc rp rc p c xs
  lt : wl.heap.size ≤ bx
section
variable {w wl W W' : World} {bx : Nat} {t : Tm} {k n : Int} {a o : ByteArray} {ty res : Ty} {ts : List Tm} {tp rp p : Option Addr} {tc rc c : Nat} {xs : List Value}
theorem CInv.bxlt (h : CInv wl bx W t tp tc rp rc p c xs) : bx < W.heap.size := (Array.getElem?_eq_some_iff.1 h.box).1
theorem CInv.keep (h : CInv wl bx W t tp tc rp rc p c xs) (hb : Below W.heap.size W W') : CInv wl bx W' t tp tc rp rc p c xs :=
  ⟨h.below.trans (hb.mono h.below.size), (hb.block _ h.bxlt).trans h.box, h.new.stays (.of_below hb), h.lt⟩
theorem CInv.app {g cap : Nat} {x : Tm} {us : List Value} (h : CInv wl bx W (.mk k a o n ty res ts) tp tc rp rc p c xs)
    (hA : Appd W W' wl.heap.size 35 9 (.slice p ts.length c) ts.length xs us g cap) (hx : MS W (fun z => (wl.heap.size ≤ z ∧ z ≠ bx) ∧ (Value.slice p ts.length c).ownBlock ≠ some z) x.ds us) :
    CInv wl bx (W'.setCell ⟨bx, 8, none⟩ (.slice (some ⟨g, 0, none⟩) (ts.length + 1) cap)) (.mk k a o n ty res (ts ++ [x])) tp tc rp rc (some ⟨g, 0, none⟩) cap (xs ++ us) := by
  have hl := h.lt
  have hob : (Value.slice p ts.length c).ownBlock ≠ some bx := fun e => (h.new.row.blk _ e).2 rfl
  have hkb := hA.kept bx h.bxlt hob
  have hblk := hkb.1.trans h.box
  have hgb : wl.heap.size ≤ g ∧ g ≠ bx := ⟨(hA.own.lt g rfl).1, hkb.2⟩
  have go : ∀ {us : List Ty} {v : Value}, TS W (fun z => (wl.heap.size ≤ z ∧ z ≠ bx) ∧ (Value.slice p ts.length c).ownBlock ≠ some z) us v → TS (W'.setCell ⟨bx, 8, none⟩ (.slice (some ⟨g, 0, none⟩) (ts.length + 1) cap)) (fun z => (wl.heap.size ≤ z ∧ z ≠ bx) ∧ (Value.slice (some ⟨g, 0, none⟩) (ts.length + 1) cap).ownBlock ≠ some z) us v := fun {us v} hd => by
    refine (((hd.mono (C' := fun z => ((wl.heap.size ≤ z ∧ z ≠ bx) ∧ (Value.slice p ts.length c).ownBlock ≠ some z) ∧ z < W.heap.size) (fun _ hz hl => ⟨hz, hl⟩)).stays (w' := W') ⟨hA.size, fun z hz hl => (hA.kept z hl hz.1.2).1⟩).stays (setCell_stays _ _ _ _ _ (fun hz => hz.1.1.2 rfl))).mono (fun z hz _ => ⟨hz.1.1, fun e => ?_⟩)
    have := (hA.kept z hz.2 hz.1.2).2
    simp [Value.ownBlock] at e
    omega
  have hrow := (h.new.row.app hA hgb hx).stays (setCell_stays W' bx 8 (.slice (some ⟨g, 0, none⟩) (ts.length + 1) cap) _ (by simp))
  have e1 : (ts ++ [x]).length = ts.length + 1 := by simp
  refine ⟨(h.below.trans hA.below).setCell (p := ⟨bx, 8, none⟩) hl _, ?_, ⟨?_, ?_, ?_⟩, h.lt⟩
  · rw [Go.Joins.block_setCell hblk _]
    show _ = some (Obj.cells (tmC (.mk k a o n ty res (ts ++ [x])) tp tc rp rc (some ⟨g, 0, none⟩) cap) _ _)
    simp only [tmC, Tm.args, e1]
    rfl
  · show TS _ (fun z => _ ∧ (Value.slice _ (ts ++ [x]).length _).ownBlock ≠ _) _ _
    rw [e1]; exact go h.new.ty
  · show TS _ (fun z => _ ∧ (Value.slice _ (ts ++ [x]).length _).ownBlock ≠ _) _ _
    rw [e1]; exact go h.new.res
  · show RowM _ _ _ (.slice _ (ts ++ [x]).length _) _ _
    rw [e1]; exact hrow
theorem CInv.facts (h : CInv wl bx W (.mk k a o n ty res ts) tp tc rp rc p c xs) :
    (W.cell? ⟨bx, 0, none⟩ = some (.int .i64 k) ∧ W.cell? ⟨bx, 1, none⟩ = some (.string a) ∧ W.cell? ⟨bx, 2, none⟩ = some (.string o) ∧ W.cell? ⟨bx, 3, none⟩ = some (.int .i64 n) ∧ W.cell? ⟨bx, 4, none⟩ = some (.int .i64 ty.kind) ∧ W.cell? ⟨bx, 5, none⟩ = some (.slice tp ty.args.length tc) ∧ W.cell? ⟨bx, 6, none⟩ = some (.int .i64 res.kind) ∧ W.cell? ⟨bx, 7, none⟩ = some (.slice rp res.args.length rc) ∧ W.cell? ⟨bx, 8, none⟩ = some (.slice p ts.length c)) ∧ ∀ i, W.frozen? ⟨bx, i, none⟩ = false :=
  ⟨⟨cell_of_blk h.box 0, cell_of_blk h.box 1, cell_of_blk h.box 2, cell_of_blk h.box 3, cell_of_blk h.box 4, cell_of_blk h.box 5, cell_of_blk h.box 6, cell_of_blk h.box 7, cell_of_blk h.box 8⟩, unfrozen_of_blk h.box⟩
theorem CInv.own (h : CInv wl bx W (.mk k a o n ty res ts) tp tc rp rc p c xs) : W.ownsRow wl.heap.size 35 9 (.slice p ts.length c) ts.length xs := h.new.row.own
theorem cell8 (h : W.heap[bx]? = some (.cells (tmC (.mk k a o n ty res ts) tp tc rp rc p c) 35 (0, 0))) : W.cell? ⟨bx, 8, none⟩ = some (.slice p ts.length c) := cell_of_blk h 8
theorem CInv.fin (h : CInv wl bx W t tp tc rp rc p c xs) (hb : Below w.heap.size w wl) (hs : wl.heap.size = w.heap.size + 2) :
    CopyRet t w (.returned (tmV t tp tc rp rc p c)) (setN W (w.heap.size + 1) 0 [.int .i64 t.kind, .string t.name, .string t.other, .int .i64 t.n, .int .i64 t.ty.kind, .slice tp t.ty.args.length tc, .int .i64 t.res.kind, .slice rp t.res.args.length rc, .slice p t.args.length c]) :=
  ⟨tp, tc, rp, rc, p, c, xs, rfl, (h.new.stays (setN_stays _ (fun z => wl.heap.size ≤ z ∧ z ≠ bx) W (w.heap.size + 1) 0 (fun hc => by have := hc.1; omega))).base (by omega) (fun z hz _ => by have := hz.1; omega),
    (hb.trans (h.below.mono hb.size)).trans (setN_below _ w.heap.size W (w.heap.size + 1) 0 (by omega))⟩
end

set_option maxRecDepth 100000 in
set_option maxHeartbeats 4000000 in
theorem copyM_any {C : Nat → Prop} : ∀ (m : Nat) {t : Tm} {tp : Option Addr} {tc : Nat} {rp : Option Addr} {rc : Nat} {p : Option Addr} {c : Nat} (w : World), t.nodes ≤ m → TM' w C t tp tc rp rc p c → t.wt ≤ 1048576 →
    Calls Tryd.prog 38 #[tmV t tp tc rp rc p c] w (CopyRet t w)
  | 0, t, tp, tc, rp, rc, p, c, w, hm, hT, hn => by rw [t.nodes_eq] at hm; omega
  | m + 1, t, tp, tc, rp, rc, p, c, w, hm, hT, hn => by
    obtain ⟨i0, hi, hz0, hz1, hz2⟩ := info_parts infoTm
    have hwe := t.wt_eq
    have hlen := wtS_ge t.args
    have n1 : nodesS t.ty.args ≤ 1048576 := by omega
    have n2 : nodesS t.res.args ≤ 1048576 := by omega
    obtain ⟨wl, hwl, hsz, hbl, q0, q1⟩ := box_new2 w (tmC t tp tc rp rc p c) #[.int .i64 0, .string ⟨#[]⟩, .string ⟨#[]⟩, .int .i64 0, .int .i64 0, .slice none 0 0, .int .i64 0, .slice none 0 0, .slice none 0 0] 35 35
    have HA := Lib.hid (fun (W : World) (hW : Below wl.heap.size wl W) => copyT_any (⟨_, rfl, (hT.ty.keep hbl).keep hW⟩ : TT W C t.ty (.agg #[.int .i64 t.ty.kind, .slice tp t.ty.args.length tc])) n1)
    have HB := Lib.hid (fun (W : World) (hW : Below wl.heap.size wl W) => copyT_any (⟨_, rfl, (hT.res.keep hbl).keep hW⟩ : TT W C t.res (.agg #[.int .i64 t.res.kind, .slice rp t.res.args.length rc])) n2)
    have HX0 := Lib.hid (Bx9.of q0)
    have HQ0 := Lib.hid q0
    have HQ1 := Lib.hid q1
    have HSZ := Lib.hid hsz
    have HBL := Lib.hid hbl
    have HWL := Lib.hid hwl
    clear hwe hlen n1 n2 q0 q1 hsz hbl hwl
    go_enter Tryd.func38, Tryd.ntmps38
    go_upto_region 1 with fail
    rw [HWL.out]
    go_cut [3] from 5 to 38 (fun s3 wx => Cpd wl t s3 wx)
    case first =>
      obtain ⟨g0, g1, g2, g3, g4, g5, g6, g7, g8⟩ := HX0.out
      have HS0 : Hid (Below wl.heap.size wl wl.drew ∧ wl.drew.cell? ⟨w.heap.size, 0, none⟩ = some (.int .i64 t.kind) ∧ wl.drew.cell? ⟨w.heap.size, 1, none⟩ = some (.string t.name) ∧ wl.drew.cell? ⟨w.heap.size, 2, none⟩ = some (.string t.other) ∧ wl.drew.cell? ⟨w.heap.size, 3, none⟩ = some (.int .i64 t.n) ∧ wl.drew.cell? ⟨w.heap.size, 4, none⟩ = some (.int .i64 t.ty.kind) ∧ wl.drew.cell? ⟨w.heap.size, 5, none⟩ = some (.slice tp t.ty.args.length tc) ∧ wl.drew.cell? ⟨w.heap.size, 6, none⟩ = some (.int .i64 t.res.kind) ∧ wl.drew.cell? ⟨w.heap.size, 7, none⟩ = some (.slice rp t.res.args.length rc)) := Lib.hid ⟨(Below.refl _ wl).drew, g0, g1, g2, g3, g4, g5, g6, g7⟩
      go_region_held3 (fun w' => Below wl.heap.size wl w' ∧ w'.cell? ⟨w.heap.size, 0, none⟩ = some (.int .i64 t.kind) ∧ w'.cell? ⟨w.heap.size, 1, none⟩ = some (.string t.name) ∧ w'.cell? ⟨w.heap.size, 2, none⟩ = some (.string t.other) ∧ w'.cell? ⟨w.heap.size, 3, none⟩ = some (.int .i64 t.n) ∧ w'.cell? ⟨w.heap.size, 4, none⟩ = some (.int .i64 t.ty.kind) ∧ w'.cell? ⟨w.heap.size, 5, none⟩ = some (.slice tp t.ty.args.length tc) ∧ w'.cell? ⟨w.heap.size, 6, none⟩ = some (.int .i64 t.res.kind) ∧ w'.cell? ⟨w.heap.size, 7, none⟩ = some (.slice rp t.res.args.length rc))
        (first
          | with_reducible exact HS0.out
          | with_reducible exact HS4.out
          | with_reducible exact (cp_set (cp_set (cp_set (cp_set (cp_set (cp_set (cp_set (cp_set (cp_set HS4.out HLE.out HNE.out) HLE.out HNE.out) HLE.out HNE.out) HLE.out HNE.out) HLE.out HNE.out) HLE.out HNE.out) HLE.out HNE.out) HLE.out HNE.out) HLE.out HNE.out)
          | with_reducible exact cp_keep (al_below w4 _) HS4.out
          | with_reducible exact cp_keep hb1 (by assumption)
          | with_reducible exact cp_keep (al_below _ _) (by assumption)
          | (go_keep; done)
          | fail)
        (first
          | (go_at_call_of 63 (Value.agg #[.int .i64 t.ty.kind, .slice tp t.ty.args.length tc]); refine (HA.out _ (And.left (by assumption))).mono ?_; rintro e w3 ⟨v1, rfl, ⟨s1, rfl, hs1⟩, hb1⟩; obtain ⟨p1, c1, rfl⟩ := hs1.form)
          | (go_at_call_of 63 (Value.agg #[.int .i64 t.res.kind, .slice rp t.res.args.length rc]); refine (HB.out _ (And.left (by assumption))).mono ?_; rintro e w4 ⟨v2, rfl, ⟨s2, rfl, hs2⟩, hb2⟩; obtain ⟨p2, c2, rfl⟩ := hs2.form; have HS4 : Hid (Below wl.heap.size wl w4 ∧ w4.cell? ⟨w.heap.size, 0, none⟩ = some (.int .i64 t.kind) ∧ w4.cell? ⟨w.heap.size, 1, none⟩ = some (.string t.name) ∧ w4.cell? ⟨w.heap.size, 2, none⟩ = some (.string t.other) ∧ w4.cell? ⟨w.heap.size, 3, none⟩ = some (.int .i64 t.n) ∧ w4.cell? ⟨w.heap.size, 4, none⟩ = some (.int .i64 t.ty.kind) ∧ w4.cell? ⟨w.heap.size, 5, none⟩ = some (.slice tp t.ty.args.length tc) ∧ w4.cell? ⟨w.heap.size, 6, none⟩ = some (.int .i64 t.res.kind) ∧ w4.cell? ⟨w.heap.size, 7, none⟩ = some (.slice rp t.res.args.length rc)) := Lib.hid (cp_keep hb2 (by assumption)); (first
              | (have zb : w4.heap[wl.heap.size]? = some (.cells #[.int .i64 0, .string ⟨#[]⟩, .string ⟨#[]⟩, .int .i64 0, .int .i64 0, .slice none 0 0, .int .i64 0, .slice none 0 0, .slice none 0 0] 35 (0, 0)) := (hb2.block wl.heap.size (by have := hb1.size; simp at this ⊢; omega)).trans ((hb1.block wl.heap.size (by simp)).trans (blk_new wl.drew _)); have HZB := Lib.hid zb; have y0 : w4.cell? ⟨wl.heap.size, 0, none⟩ = some (.int .i64 0) := cell_of_blk zb 0; have y1 : w4.cell? ⟨wl.heap.size, 1, none⟩ = some (.string ⟨#[]⟩) := cell_of_blk zb 1; have y2 : w4.cell? ⟨wl.heap.size, 2, none⟩ = some (.string ⟨#[]⟩) := cell_of_blk zb 2; have y3 : w4.cell? ⟨wl.heap.size, 3, none⟩ = some (.int .i64 0) := cell_of_blk zb 3; have y4 : w4.cell? ⟨wl.heap.size, 4, none⟩ = some (.int .i64 0) := cell_of_blk zb 4; have y5 : w4.cell? ⟨wl.heap.size, 5, none⟩ = some (.slice none 0 0) := cell_of_blk zb 5; have y6 : w4.cell? ⟨wl.heap.size, 6, none⟩ = some (.int .i64 0) := cell_of_blk zb 6; have y7 : w4.cell? ⟨wl.heap.size, 7, none⟩ = some (.slice none 0 0) := cell_of_blk zb 7; have y8 : w4.cell? ⟨wl.heap.size, 8, none⟩ = some (.slice none 0 0) := cell_of_blk zb 8; have yz := unfrozen_of_blk zb; clear zb; have HLE : Hid (wl.heap.size ≤ wl.heap.size) := Lib.hid (Nat.le_refl _); have HNE : Hid (w.heap.size ≠ wl.heap.size) := Lib.hid (by have := HLE.out; have := HSZ.out; omega); have HT1 : Hid (TS w4 (fun z => wl.heap.size ≤ z ∧ z ≠ wl.heap.size) t.ty.args (.slice p1 t.ty.args.length c1)) := Lib.hid ((hs1.mono (fun z hz _ => ⟨by simp at hz; omega, by simp at hz; omega⟩)).keep hb2); have HT2 : Hid (TS w4 (fun z => wl.heap.size ≤ z ∧ z ≠ wl.heap.size) t.res.args (.slice p2 t.res.args.length c2)) := Lib.hid (hs2.mono (fun z hz _ => by have := hb1.size; simp at this; exact ⟨by omega, by omega⟩)))
              | (have zb : w4.heap[w3.heap.size]? = some (.cells #[.int .i64 0, .string ⟨#[]⟩, .string ⟨#[]⟩, .int .i64 0, .int .i64 0, .slice none 0 0, .int .i64 0, .slice none 0 0, .slice none 0 0] 35 (0, 0)) := (hb2.block w3.heap.size (by simp)).trans (blk_new w3 _); have HZB := Lib.hid zb; have y0 : w4.cell? ⟨w3.heap.size, 0, none⟩ = some (.int .i64 0) := cell_of_blk zb 0; have y1 : w4.cell? ⟨w3.heap.size, 1, none⟩ = some (.string ⟨#[]⟩) := cell_of_blk zb 1; have y2 : w4.cell? ⟨w3.heap.size, 2, none⟩ = some (.string ⟨#[]⟩) := cell_of_blk zb 2; have y3 : w4.cell? ⟨w3.heap.size, 3, none⟩ = some (.int .i64 0) := cell_of_blk zb 3; have y4 : w4.cell? ⟨w3.heap.size, 4, none⟩ = some (.int .i64 0) := cell_of_blk zb 4; have y5 : w4.cell? ⟨w3.heap.size, 5, none⟩ = some (.slice none 0 0) := cell_of_blk zb 5; have y6 : w4.cell? ⟨w3.heap.size, 6, none⟩ = some (.int .i64 0) := cell_of_blk zb 6; have y7 : w4.cell? ⟨w3.heap.size, 7, none⟩ = some (.slice none 0 0) := cell_of_blk zb 7; have y8 : w4.cell? ⟨w3.heap.size, 8, none⟩ = some (.slice none 0 0) := cell_of_blk zb 8; have yz := unfrozen_of_blk zb; clear zb; have HLE : Hid (wl.heap.size ≤ w3.heap.size) := Lib.hid hb1.size; have HNE : Hid (w.heap.size ≠ w3.heap.size) := Lib.hid (by have := HLE.out; have := HSZ.out; omega); have HT1 : Hid (TS w4 (fun z => wl.heap.size ≤ z ∧ z ≠ w3.heap.size) t.ty.args (.slice p1 t.ty.args.length c1)) := Lib.hid (((hs1.mono (C' := fun z => wl.heap.size ≤ z ∧ z ≠ w3.heap.size) (fun z hz hl => ⟨hz, by omega⟩)).keep (al_below w3 _)).keep hb2); have HT2 : Hid (TS w4 (fun z => wl.heap.size ≤ z ∧ z ≠ w3.heap.size) t.res.args (.slice p2 t.res.args.length c2)) := Lib.hid (hs2.mono (fun z hz _ => by have := hb1.size; simp at hz this; exact ⟨by omega, by omega⟩)))
              | (have HB1 : Hid (Below wl.heap.size wl w3) := Lib.hid ((Below.refl _ wl).drew.trans hb1); have HS1 : Hid (TS w3 (fun z => wl.heap.size ≤ z) t.ty.args (.slice p1 t.ty.args.length c1)) := Lib.hid hs1; have HB2 : Hid (Below w3.heap.size w3 w4) := Lib.hid hb2; have HS2 : Hid (TS w4 (fun z => w3.heap.size ≤ z) t.res.args (.slice p2 t.res.args.length c2)) := Lib.hid hs2)))
          | fail)
      all_goals
        go_wp2_with fail
        go_meet
        first
          | with_reducible exact cpd_set HZB.out HLE.out HT1.out HT2.out HS4.out.1
          | with_reducible exact cpd_A HB1.out HS1.out HB2.out HS2.out
          | fail
    case rest =>
      obtain ⟨bx, p1, c1, p2, c2, rfl, hbk, hle, hT1, hT2, hbw⟩ := hcut
      have HI0 : Hid (CInv wl bx wc (.mk t.kind t.name t.other t.n t.ty t.res []) p1 c1 p2 c2 none 0 []) := Lib.hid ⟨hbw, hbk, ⟨hT1.mono (fun z hz _ => ⟨hz, by simp [Value.ownBlock]⟩), hT2.mono (fun z hz _ => ⟨hz, by simp [Value.ownBlock]⟩), RowM.start _ _ _⟩, hle⟩
      have HT := Lib.hid (hT.stays (.of_below HBL.out))
      have HM := Lib.hid hm
      have HNE := Lib.hid t.nodes_eq
      have HNW := Lib.hid hn
      have hwa : wtS t.args ≤ 1048576 := by have := t.wt_eq; omega
      have hlen := wtS_ge t.args
      have hl0 : t.args.length ≤ 1048576 := by omega
      clear hbk hle hT1 hT2 hbw hT hm hn HA HB HWL hlen
      go_wp2_with fail
      go_loopw [4] (fun i wr => ∃ (k : Nat) (pp : Option Addr) (cc : Nat) (xs : List Value), k ≤ t.args.length ∧ i = .int .i64 k ∧ CInv wl bx wr (.mk t.kind t.name t.other t.n t.ty t.res (t.args.take k)) p1 c1 p2 c2 pp cc xs) (fun i _ => t.args.length - (intOf i).toNat)
      case atStart => exact ⟨0, none, 0, [], Nat.zero_le _, rfl, by rw [List.take_zero]; exact HI0.out⟩
      case round =>
        obtain ⟨k, pp, cc, xs, hk, rfl, hI⟩ := hrel
        have HI := Lib.hid hI
        have hx0 := (hI.below.block w.heap.size (by have := HSZ.out; omega)).trans HQ0.out
        have hx1 := (hI.below.block (w.heap.size + 1) (by have := HSZ.out; omega)).trans HQ1.out
        have x8 : wr.cell? ⟨w.heap.size, 8, none⟩ = some (.slice p t.args.length c) := cell_of_blk hx0 8
        by_cases hlk : k < t.args.length
        · obtain ⟨b, o, tp2, tc2, rp2, rc2, p3, c3, rfl, hC, hb, h9, hP⟩ := tm_part HT.out.args k hlk
          obtain ⟨g0, g1, g2, g3, g4, g5, g6, g7, g8⟩ := h9 wr (.of_below hI.below)
          have n4 := nodesM_at t.args k hlk
          have n5 := wtS_at t.args k hlk
          have hmk : t.args[k].nodes ≤ m := by have := HM.out; have := HNE.out; omega
          have hi0 : (0 : Int) ≤ (k : Int) := Int.natCast_nonneg _
          have hi1 : (k : Int) < (t.args.length : Int) := by omega
          have HC := Lib.hid (copyM_any m wr.drew hmk (hP.stays (.of_below hI.below.drew)) (by omega))
          have e1 : (t.args.take k).length = k := by rw [List.length_take]; omega
          have HE1 := Lib.hid e1
          have HL := Lib.hid hI.lt
          have y8 := hI.facts.1.2.2.2.2.2.2.2.2
          rw [e1] at y8
          have yz := hI.facts.2
          clear hC hb h9 hP n4 n5 hmk hx0 hx1 hI e1
          go_wp2_with fail
          go_region_law (first
            | (refine step_app1 (w0 := w1) (v := .slice pp k cc) (n := k) (xs := xs) rfl (.tmp 28) (.tmp 35) rfl Tryd.underlying33 hi hz0 hz1 hz2 rfl (by decide) rfl HOW.out _ rfl (by simp) rfl (fun u hu => by simp at hu; rcases hu with rfl | rfl | rfl | rfl | rfl | rfl | rfl | rfl | rfl <;> rfl) (by unfold maxLen; omega) (by omega) HSW.out ?_; intro w' g2' cap2 hA; have d6b := (hA.kept bx HI1.out.bxlt (fun e => by have hE := HE1.out; rw [← hE] at e; exact (HI1.out.new.row.blk _ e).2 rfl)).1.trans HI1.out.box; have d6 : w'.cell? ⟨bx, 8, none⟩ = some (.slice pp k cc) := by have := cell8 d6b; have hE := HE1.out; rw [hE] at this; exact this
               have d6z := unfrozen_of_blk d6b)
            | (go_simp; go_at_call 38; refine HC.out.mono ?_; rintro e w1 ⟨tp3, tc3, rp3, rc3, p4, c4, xs3, rfl, hN, hb1⟩; have hI1 := (HI.out.keep ((Below.refl _ wr).drew)).keep hb1; have HI1 := Lib.hid hI1; have HN := Lib.hid hN; have HB1 := Lib.hid hb1; have HOW : Hid (w1.ownsRow wl.heap.size 35 9 (.slice pp k cc) k xs) := Lib.hid (by have hE := HE1.out; have := hI1.own; rw [hE] at this; exact this)
               have HSW : Hid (wl.heap.size ≤ w1.heap.size) := Lib.hid hI1.below.size
               have d4 : w1.cell? ⟨bx, 8, none⟩ = some (.slice pp k cc) := by have := hI1.facts.1.2.2.2.2.2.2.2.2; have hE := HE1.out; rw [hE] at this; exact this
               have d4z := hI1.facts.2
               have d5 := fun (o : Obj) => al_cell d4 o
               clear hI1 hN hb1))
          all_goals
            have HAA := Lib.hid hA
            clear hA d4 d4z d5 d6b d6 d6z g0 g1 g2 g3 g4 g5 g6 g7 g8 x8 y8 yz
            go_wp2_with fail
            go_roundw
            case rel =>
              refine ⟨k + 1, some ⟨g2', 0, none⟩, cap2, xs ++ [.int .i64 t.args[k].kind, .string t.args[k].name, .string t.args[k].other, .int .i64 t.args[k].n, .int .i64 t.args[k].ty.kind, .slice tp3 t.args[k].ty.args.length tc3, .int .i64 t.args[k].res.kind, .slice rp3 t.args[k].res.args.length rc3, .slice p4 t.args[k].args.length c4], by omega, by go_num, ?_⟩
              have hE := HE1.out
              have hA2 := HAA.out
              have := HI1.out.app (x := t.args[k]) (us := [.int .i64 t.args[k].kind, .string t.args[k].name, .string t.args[k].other, .int .i64 t.args[k].n, .int .i64 t.args[k].ty.kind, .slice tp3 t.args[k].ty.args.length tc3, .int .i64 t.args[k].res.kind, .slice rp3 t.args[k].res.args.length rc3, .slice p4 t.args[k].args.length c4]) (g := g2') (cap := cap2) (by rw [hE]; exact hA2) (HN.out.tm.mono (fun z hz _ => ?_)).ms
              · rw [hE] at this
                rw [tm_take_next hlk]
                exact this
              · have l1 := HI.out.below.size
                have l2 := HI.out.bxlt
                have hz' : wr.heap.size ≤ z := hz
                refine ⟨⟨by omega, by omega⟩, fun e => ?_⟩
                have := (HI.out.new.row.own.lt _ e).2
                omega
            case measure => simp [intOf]; omega
        · obtain rfl : k = t.args.length := by omega
          rw [List.take_length] at hI HI
          obtain ⟨⟨d0, d1, d2, d3, d4, d5, d6, d7, d8⟩, dz⟩ := hI.facts
          have r0 := cell_of_blk hx1 0
          have r1 := cell_of_blk hx1 1
          have r2 := cell_of_blk hx1 2
          have r3 := cell_of_blk hx1 3
          have r4 := cell_of_blk hx1 4
          have r5 := cell_of_blk hx1 5
          have r6 := cell_of_blk hx1 6
          have r7 := cell_of_blk hx1 7
          have r8 := cell_of_blk hx1 8
          have rz := unfrozen_of_blk hx1
          simp only [List.getElem?_toArray, List.getElem?_cons_zero, List.getElem?_cons_succ] at r0 r1 r2 r3 r4 r5 r6 r7 r8
          clear hx0 hx1 hI
          go_wp2_with fail
          refine bodyPost_ret (v := tmV t p1 c1 p2 c2 pp cc) ?_ rfl ?_
          · rw [results_cell1 rfl]
            go_simp
            all_goals (repeat' apply And.intro) <;> rfl
          · have h1 := HI.out
            rw [← t.eta] at h1
            have := h1.fin HBL.out HSZ.out
            rw [setN9] at this
            exact this
end Go.Proofs.YtingnigiijdllaaDoor
namespace Go.Proofs.YtingnigiijdllaaDoor
open Go Go.RowKit

abbrev zero9 : Array Value := #[.int .i64 0, .string ⟨#[]⟩, .string ⟨#[]⟩, .int .i64 0, .int .i64 0, .slice none 0 0, .int .i64 0, .slice none 0 0, .slice none 0 0]
abbrev zTy : Ty := .mk 0 []
theorem nodeC_fin {w wl W : World} {t : Tm} {tp rp p : Option Addr} {tc rc c bx : Nat} {xs : List Value} (h : CInv wl bx W t tp tc rp rc p c xs) (hb : Below w.heap.size w wl) (hs : wl.heap.size = w.heap.size + 1) :
    CopyRet t w (.returned (tmV t tp tc rp rc p c)) (setN W w.heap.size 0 [.int .i64 t.kind, .string t.name, .string t.other, .int .i64 t.n, .int .i64 t.ty.kind, .slice tp t.ty.args.length tc, .int .i64 t.res.kind, .slice rp t.res.args.length rc, .slice p t.args.length c]) :=
  ⟨tp, tc, rp, rc, p, c, xs, rfl, (h.new.stays (setN_stays _ (fun z => wl.heap.size ≤ z ∧ z ≠ bx) W w.heap.size 0 (fun hc => by have := hc.1; omega))).base (by omega) (fun z hz _ => by have := hz.1; omega),
    (hb.trans (h.below.mono hb.size)).trans (setN_below _ w.heap.size W w.heap.size 0 (Nat.le_refl _))⟩

set_option maxRecDepth 100000 in
set_option maxHeartbeats 4000000 in
theorem node_any {C : Nat → Prop} {ts : List Tm} {v : Value} {w : World} (q : Int) (h : DM w C (tmD ts) v) (hn : wtS ts ≤ 1048576) :
    Calls Tryd.prog 44 #[.int .i64 q, v] w (CopyRet (.mk q ⟨#[]⟩ ⟨#[]⟩ 0 zTy zTy ts) w) := by
  obtain ⟨i0, hi, hz0, hz1, hz2⟩ := info_parts infoTm
  obtain ⟨p, c, rfl⟩ := h.form
  have hlen := wtS_ge ts
  have hwa := hn
  have hb1 := al_below w (.cells zero9 35)
  obtain ⟨wl, hwl, hsz, hbl, q0⟩ := box_new w zero9 35
  have hal := al_below wl (.cells (tmC (.mk q ⟨#[]⟩ ⟨#[]⟩ 0 zTy zTy []) none 0 none 0 none 0) 35)
  have HI0 : Hid (CInv wl wl.heap.size (wl.alloc (.cells (tmC (.mk q ⟨#[]⟩ ⟨#[]⟩ 0 zTy zTy []) none 0 none 0 none 0) 35)) (.mk q ⟨#[]⟩ ⟨#[]⟩ 0 zTy zTy []) none 0 none 0 none 0 []) := Lib.hid ⟨hal, blk_new wl _, ⟨.nil _ _, .nil _ _, RowM.start _ _ _⟩, Nat.le_refl _⟩
  have HT := Lib.hid (h.stays (.of_below hbl))
  have HQ0 := Lib.hid q0
  have HSZ := Lib.hid hsz
  have HBL := Lib.hid hbl
  have HWL := Lib.hid hwl
  have hl0 : ts.length ≤ 1048576 := by omega
  clear h hn hb1 hsz hbl q0 hlen hal hwl
  go_enter Tryd.func44, Tryd.ntmps44
  go_upto_region 1 with fail
  rw [HWL.out]
  go_wp2_with fail
  go_loopw [6] (fun i wr => ∃ (k : Nat) (pp : Option Addr) (cc : Nat) (xs : List Value), k ≤ ts.length ∧ i = .int .i64 k ∧ CInv wl wl.heap.size wr (.mk q ⟨#[]⟩ ⟨#[]⟩ 0 zTy zTy (ts.take k)) none 0 none 0 pp cc xs) (fun i _ => ts.length - (intOf i).toNat)
  case atStart => exact ⟨0, none, 0, [], Nat.zero_le _, rfl, by rw [List.take_zero]; exact HI0.out⟩
  case round =>
    obtain ⟨k, pp, cc, xs, hk, rfl, hI⟩ := hrel
    have HI := Lib.hid hI
    have hx0 := (hI.below.block w.heap.size (by have := HSZ.out; omega)).trans HQ0.out
    by_cases hlk : k < ts.length
    · obtain ⟨b, o, tp2, tc2, rp2, rc2, p3, c3, rfl, hC, hb, h9, hP⟩ := tm_part HT.out k hlk
      obtain ⟨g0, g1, g2, g3, g4, g5, g6, g7, g8⟩ := h9 wr (.of_below hI.below)
      have n5 := wtS_at ts k hlk
      have hi0 : (0 : Int) ≤ (k : Int) := Int.natCast_nonneg _
      have hi1 : (k : Int) < (ts.length : Int) := by omega
      have HC := Lib.hid (copyM_any _ wr.drew (Nat.le_refl _) (hP.stays (.of_below hI.below.drew)) (by omega))
      have e1 : (ts.take k).length = k := by rw [List.length_take]; omega
      have HE1 := Lib.hid e1
      have HL := Lib.hid hI.lt
      have y8 := hI.facts.1.2.2.2.2.2.2.2.2
      rw [e1] at y8
      have yz := hI.facts.2
      clear hC hb h9 hP n5 hx0 hI e1
      go_wp2_with fail
      go_region_law (first
        | (refine step_app1 (w0 := w1) (v := .slice pp k cc) (n := k) (xs := xs) rfl (.tmp 16) (.tmp 22) rfl Tryd.underlying33 hi hz0 hz1 hz2 rfl (by decide) rfl HOW.out _ rfl (by simp) rfl (fun u hu => by simp at hu; rcases hu with rfl | rfl | rfl | rfl | rfl | rfl | rfl | rfl | rfl <;> rfl) (by unfold maxLen; omega) (by omega) HSW.out ?_; intro w' g2' cap2 hA; have d6b := (hA.kept wl.heap.size HI1.out.bxlt (fun e => by have hE := HE1.out; rw [← hE] at e; exact (HI1.out.new.row.blk _ e).2 rfl)).1.trans HI1.out.box; have d6 : w'.cell? ⟨wl.heap.size, 8, none⟩ = some (.slice pp k cc) := by have := cell8 d6b; have hE := HE1.out; rw [hE] at this; exact this
           have d6z := unfrozen_of_blk d6b)
        | (go_simp; go_at_call 38; refine HC.out.mono ?_; rintro e w1 ⟨tp3, tc3, rp3, rc3, p4, c4, xs3, rfl, hN, hb1⟩; have hI1 := (HI.out.keep ((Below.refl _ wr).drew)).keep hb1; have HI1 := Lib.hid hI1; have HN := Lib.hid hN; have HB1 := Lib.hid hb1; have HOW : Hid (w1.ownsRow wl.heap.size 35 9 (.slice pp k cc) k xs) := Lib.hid (by have hE := HE1.out; have := hI1.own; rw [hE] at this; exact this)
           have HSW : Hid (wl.heap.size ≤ w1.heap.size) := Lib.hid hI1.below.size
           have d4 : w1.cell? ⟨wl.heap.size, 8, none⟩ = some (.slice pp k cc) := by have := hI1.facts.1.2.2.2.2.2.2.2.2; have hE := HE1.out; rw [hE] at this; exact this
           have d4z := hI1.facts.2
           have d5 := fun (o : Obj) => al_cell d4 o
           clear hI1 hN hb1))
      all_goals
        have HAA := Lib.hid hA
        clear hA d4 d4z d5 d6b d6 d6z g0 g1 g2 g3 g4 g5 g6 g7 g8 y8 yz
        go_wp2_with fail
        go_roundw
        case rel =>
          refine ⟨k + 1, some ⟨g2', 0, none⟩, cap2, xs ++ [.int .i64 ts[k].kind, .string ts[k].name, .string ts[k].other, .int .i64 ts[k].n, .int .i64 ts[k].ty.kind, .slice tp3 ts[k].ty.args.length tc3, .int .i64 ts[k].res.kind, .slice rp3 ts[k].res.args.length rc3, .slice p4 ts[k].args.length c4], by omega, by go_num, ?_⟩
          have hE := HE1.out
          have hA2 := HAA.out
          have := HI1.out.app (x := ts[k]) (us := [.int .i64 ts[k].kind, .string ts[k].name, .string ts[k].other, .int .i64 ts[k].n, .int .i64 ts[k].ty.kind, .slice tp3 ts[k].ty.args.length tc3, .int .i64 ts[k].res.kind, .slice rp3 ts[k].res.args.length rc3, .slice p4 ts[k].args.length c4]) (g := g2') (cap := cap2) (by rw [hE]; exact hA2) (HN.out.tm.mono (fun z hz _ => ?_)).ms
          · rw [hE] at this
            rw [tm_take_next hlk]
            exact this
          · have l1 := HI.out.below.size
            have l2 := HI.out.bxlt
            have hz' : wr.heap.size ≤ z := hz
            refine ⟨⟨by omega, by omega⟩, fun e => ?_⟩
            have := (HI.out.new.row.own.lt _ e).2
            omega
        case measure => simp [intOf]; omega
    · obtain rfl : k = ts.length := by omega
      rw [List.take_length] at hI HI
      obtain ⟨⟨d0, d1, d2, d3, d4, d5, d6, d7, d8⟩, dz⟩ := hI.facts
      have r0 := cell_of_blk hx0 0
      have r1 := cell_of_blk hx0 1
      have r2 := cell_of_blk hx0 2
      have r3 := cell_of_blk hx0 3
      have r4 := cell_of_blk hx0 4
      have r5 := cell_of_blk hx0 5
      have r6 := cell_of_blk hx0 6
      have r7 := cell_of_blk hx0 7
      have r8 := cell_of_blk hx0 8
      have rz := unfrozen_of_blk hx0
      simp only [List.getElem?_toArray, List.getElem?_cons_zero, List.getElem?_cons_succ] at r0 r1 r2 r3 r4 r5 r6 r7 r8
      clear hx0 hI
      go_wp2_with fail
      refine bodyPost_ret (v := tmV (.mk q ⟨#[]⟩ ⟨#[]⟩ 0 zTy zTy ts) none 0 none 0 pp cc) ?_ rfl ?_
      · rw [results_cell1 rfl]
        go_simp
        all_goals (repeat' apply And.intro) <;> rfl
      · have := nodeC_fin HI.out HBL.out HSZ.out
        rw [setN9] at this
        exact this
end Go.Proofs.YtingnigiijdllaaDoor
namespace Go.Proofs.YtingnigiijdllaaDoor
open Go Go.RowKit
structure JobM where
  x : Tm
  b : Nat
  o : Nat
def FreeM (st : List JobM) (b o : Nat) : Prop := ∀ e ∈ st, ¬ (e.b = b ∧ e.o ≤ o ∧ o < e.o + 9)
def Has9 (w : World) (b o : Nat) (vs : List Value) : Prop := vs.length = 9 ∧ ∀ j, j < 9 → w.cell? ⟨b, o + j, none⟩ = vs[j]?
def BlkM (w : World) (b : Nat) : Prop := ∃ cur, w.heap[b]? = some (.cells cur 35 (0, 0))
def BlkT (w : World) (b : Nat) : Prop := ∃ cur, w.heap[b]? = some (.cells cur 32 (0, 0))
theorem BlkM.not {w : World} {b : Nat} (h : BlkM w b) : ¬ BlkT w b := by
  rintro ⟨c2, h2⟩
  obtain ⟨c1, h1⟩ := h
  rw [h1] at h2
  simp only [Option.some.injEq, Obj.cells.injEq] at h2
  exact absurd h2.2.1 (by decide)
theorem BlkT.lt {w : World} {b : Nat} (h : BlkT w b) : b < w.heap.size := by
  obtain ⟨c1, h1⟩ := h
  exact blk_lt h1
theorem OS.blkT {w : World} {F : Nat → Prop} {ts : List Ty} {v : Value} (h : OS w ts v F) : OS w ts v (fun z => F z ∧ BlkT w z) := by
  induction h with
  | none F => exact .none _
  | row K S G hrow hm hF hk hr hG hd ih =>
    exact .row K S (fun j z => G j z ∧ BlkT w z) hrow hm ⟨hF, hrow.elim fun cur h => ⟨cur, h.1⟩⟩ hk ih (fun j x hj hx => ⟨⟨(hG j x hj hx.1).1, hx.2⟩, (hG j x hj hx.1).2⟩) (fun i j x hi hj hij h1 h2 => hd i j x hi hj hij h1.1 h2.1)
structure FilledM (w w' : World) (U K : Nat → Prop) (st : List JobM) : Prop where
  size : w.heap.size ≤ w'.heap.size
  keep : ∀ z, K z → w'.heap[z]? = w.heap[z]?
  same : ∀ b, U b → ∀ o, FreeM st b o → w'.cell? ⟨b, o, none⟩ = w.cell? ⟨b, o, none⟩
  shape : ∀ b, U b → ∀ cur : Array Value, w.heap[b]? = some (.cells cur 35 (0, 0)) → ∃ cur' : Array Value, w'.heap[b]? = some (.cells cur' 35 (0, 0)) ∧ cur'.size = cur.size
  full : ∃ G : Nat → Nat → Prop, (∀ i e, st[i]? = some e → ∃ vs, Has9 w' e.b e.o vs ∧ OSt w' e.x.ds vs (G i)) ∧
    (∀ i z, i < st.length → G i z → w.heap.size ≤ z) ∧ (∀ i j z, i < st.length → j < st.length → i ≠ j → G i z → G j z → False)
def RootM (w' : World) (R : Nat) (T : Tm) : Prop := ∃ vs, Has9 w' R 0 vs ∧ OSt w' T.ds vs (fun b => R < b)
structure GInv (w : World) (U K : Nat → Prop) (st : List JobM) (R : Nat) (T : Tm) : Prop where
  lt : ∀ b, U b → R ≤ b ∧ b < w.heap.size ∧ BlkM w b
  ltK : ∀ b, K b → BlkT w b
  root : R < w.heap.size
  loc : ∀ e ∈ st, U e.b ∧ (∀ j, j < 9 → ∃ q, w.cell? ⟨e.b, e.o + j, none⟩ = some q) ∧ e.o % 9 = 0
  apart : ∀ (i j : Nat) (e f : JobM), st[i]? = some e → st[j]? = some f → i ≠ j → ¬ (e.b = f.b ∧ e.o = f.o)
  wand : ∀ w', FilledM w w' U K st → RootM w' R T

theorem GInv.start {w : World} {R : Nat} {t : Tm} {cur : Array Value} (h : w.heap[R]? = some (.cells cur 35 (0, 0))) (hc : cur.size = 9) : GInv w (fun b => b = R) (fun _ => False) [⟨t, R, 0⟩] R t := by
  have hlt := blk_lt h
  refine ⟨fun b hb => by subst hb; exact ⟨Nat.le_refl _, hlt, _, h⟩, fun b hb => hb.elim, hlt, fun e he => ?_, fun i j e f hi hj hij => ?_, fun w' hf => ?_⟩
  · simp only [List.mem_singleton] at he
    subst he
    refine ⟨rfl, fun j hj => ⟨cur[j], ?_⟩, rfl⟩
    rw [cell_of_blk' h]
    simp
  · have h1 := (List.getElem?_eq_some_iff.1 hi).1
    have h2 := (List.getElem?_eq_some_iff.1 hj).1
    simp only [List.length_singleton] at h1 h2
    omega
  · obtain ⟨G, h1, h2, _⟩ := hf.full
    obtain ⟨vs, e1, e3⟩ := h1 0 _ rfl
    exact ⟨vs, e1, e3.mono (fun b hb => Nat.lt_of_lt_of_le hlt (h2 0 b (by simp) hb))⟩

theorem GInv.done {w : World} {U K : Nat → Prop} {R : Nat} {T : Tm} (h : GInv w U K [] R T) : RootM w R T :=
  h.wand w ⟨Nat.le_refl _, fun _ _ => rfl, fun _ _ _ _ => rfl, fun _ _ cur hc => ⟨cur, hc, rfl⟩, fun _ _ => False, fun i e hi => by simp at hi, fun i z hi => by simp at hi, fun i j z hi => by simp at hi⟩

theorem GInv.frame {w w2 : World} {U K : Nat → Prop} {st : List JobM} {R : Nat} {T : Tm} (h : GInv w U K st R T) (hs : w.heap.size ≤ w2.heap.size) (hU : ∀ c, U c ∨ K c → w2.heap[c]? = w.heap[c]?) : GInv w2 U K st R T := by
  have hc : ∀ c q, U c → w2.cell? ⟨c, q, none⟩ = w.cell? ⟨c, q, none⟩ := fun c q hc => World.cell?_of_block (hU c (Or.inl hc))
  refine ⟨fun b hb => ?_, fun b hb => ?_, Nat.lt_of_lt_of_le h.root hs, fun e he => ?_, h.apart, fun w' hf => h.wand w' ⟨Nat.le_trans hs hf.size, fun z hz => (hf.keep z hz).trans (hU z (Or.inr hz)), fun b hb o ho => (hf.same b hb o ho).trans (hc b o hb), fun b hb cur hcur => hf.shape b hb cur ((hU b (Or.inl hb)).trans hcur), ?_⟩⟩
  · obtain ⟨h1, h2, cur, h3⟩ := h.lt b hb
    exact ⟨h1, Nat.lt_of_lt_of_le h2 hs, cur, (hU b (Or.inl hb)).trans h3⟩
  · obtain ⟨cur, h3⟩ := h.ltK b hb
    exact ⟨cur, (hU b (Or.inr hb)).trans h3⟩
  · obtain ⟨h1, h2, h4⟩ := h.loc e he
    refine ⟨h1, fun j hj => ?_, h4⟩
    obtain ⟨q, hq⟩ := h2 j hj
    exact ⟨q, (hc _ _ h1).trans hq⟩
  · obtain ⟨G, g1, g2, g3⟩ := hf.full
    exact ⟨G, g1, fun i z hi hz => Nat.le_trans hs (g2 i z hi hz), g3⟩

theorem GInv.low {w : World} {U K : Nat → Prop} {st : List JobM} {R : Nat} {T : Tm} (h : GInv w U K st R T) {c : Nat} (hc : U c ∨ K c) : c < w.heap.size := by
  rcases hc with hc | hc
  · exact (h.lt c hc).2.1
  · exact (h.ltK c hc).lt
def kidsM (b : Nat) (ys : List Tm) : List JobM := ys.mapIdx fun j y => ⟨y, b, j * 9⟩
theorem kidsM_length (b : Nat) (ys : List Tm) : (kidsM b ys).length = ys.length := by simp [kidsM]
theorem kidsM_at {b : Nat} {ys : List Tm} {j : Nat} {e : JobM} (h : (kidsM b ys)[j]? = some e) : ∃ y, ys[j]? = some y ∧ e = ⟨y, b, j * 9⟩ := by
  simp only [kidsM, List.getElem?_mapIdx, Option.map_eq_some_iff] at h
  obtain ⟨y, h1, h2⟩ := h
  exact ⟨y, h1, h2.symm⟩
theorem kidsM_get {b : Nat} {ys : List Tm} {j : Nat} {y : Tm} (h : ys[j]? = some y) : (kidsM b ys)[j]? = some ⟨y, b, j * 9⟩ := by
  simp [kidsM, List.getElem?_mapIdx, h]
theorem kidsM_mem {b : Nat} {ys : List Tm} {e : JobM} (h : e ∈ kidsM b ys) : e.b = b ∧ e.o % 9 = 0 ∧ ∃ j y, ys[j]? = some y ∧ e = ⟨y, b, j * 9⟩ := by
  obtain ⟨j, hj⟩ := List.getElem?_of_mem h
  obtain ⟨y, hy, rfl⟩ := kidsM_at hj
  exact ⟨rfl, by simp, j, y, hy, rfl⟩
def PartsM (w wn : World) (n : Nat) (p : Option Addr) (c bb : Nat) : Prop := (n = 0 ∧ p = none ∧ c = 0) ∨
  ∃ cur0 : Array Value, 0 < n ∧ p = some ⟨bb, 0, none⟩ ∧ w.heap.size ≤ bb ∧ wn.heap[bb]? = some (.cells cur0 35 (0, 0)) ∧ cur0.size = c * 9 ∧ n ≤ c ∧ c ≤ maxLen

section
variable {w wn : World} {U K : Nat → Prop} {st0 : List JobM} {x : Tm} {b o R : Nat} {T : Tm}
theorem GInv.other (h : GInv w U K (st0 ++ [⟨x, b, o⟩]) R T) : ∀ e ∈ st0, e.b = b → e.o + 9 ≤ o ∨ o + 9 ≤ e.o := by
  intro e he hh
  obtain ⟨i, hi⟩ := List.getElem?_of_mem he
  have hil := (List.getElem?_eq_some_iff.1 hi).1
  have h1 := h.apart i st0.length e ⟨x, b, o⟩ (by rw [List.getElem?_append_left hil]; exact hi) (by simp) (by omega)
  have h2 := (h.loc e (List.mem_append_left _ he)).2.2
  have h3 := (h.loc ⟨x, b, o⟩ (by simp)).2.2
  simp only at h3 h1
  have : e.o ≠ o := fun e' => h1 ⟨hh, e'⟩
  omega
theorem GInv.node (h : GInv w U K (st0 ++ [⟨x, b, o⟩]) R T) (hsz : w.heap.size ≤ wn.heap.size)
    (hsame : ∀ c, U c → ∀ q, ¬ (c = b ∧ o ≤ q ∧ q < o + 9) → wn.cell? ⟨c, q, none⟩ = w.cell? ⟨c, q, none⟩)
    (hshape : ∀ c, U c → ∀ cur : Array Value, w.heap[c]? = some (.cells cur 35 (0, 0)) → ∃ cur' : Array Value, wn.heap[c]? = some (.cells cur' 35 (0, 0)) ∧ cur'.size = cur.size)
    (hkeep : ∀ z, K z → wn.heap[z]? = w.heap[z]?) {tp rp p : Option Addr} {tc rc c bb : Nat}
    (h9 : Has9 wn b o (tmL x tp tc rp rc p c)) {F1 F2 : Nat → Prop} (h1 : OS wn x.ty.args (.slice tp x.ty.args.length tc) F1) (h2 : OS wn x.res.args (.slice rp x.res.args.length rc) F2)
    (hF1 : ∀ z, F1 z → w.heap.size ≤ z ∧ BlkT wn z ∧ ¬ F2 z) (hF2 : ∀ z, F2 z → w.heap.size ≤ z ∧ BlkT wn z) (hp : PartsM w wn x.args.length p c bb) :
    GInv wn (fun z => U z ∨ (0 < x.args.length ∧ z = bb)) (fun z => K z ∨ F1 z ∨ F2 z) (st0 ++ kidsM bb x.args) R T := by
  have hf0 := h.other
  have hUb : U b := (h.loc ⟨x, b, o⟩ (by simp)).1
  have hob := (h.loc ⟨x, b, o⟩ (by simp)).2.2
  simp only at hob
  have hbb : 0 < x.args.length → w.heap.size ≤ bb ∧ BlkM wn bb := fun h0 => by
    rcases hp with ⟨e, _⟩ | ⟨cur0, _, _, e2, e3, _⟩
    · omega
    · exact ⟨e2, _, e3⟩
  have hne : ∀ c, U c → 0 < x.args.length → c ≠ bb := fun c hc h0 e => by have := (h.lt c hc).2.1; have := (hbb h0).1; omega
  have kn : ∀ e, e ∈ kidsM bb x.args → 0 < x.args.length := fun e he => by
    have := List.length_pos_of_mem he
    rwa [kidsM_length] at this
  have newK : ∀ z, BlkT wn z → w.heap.size ≤ z → ∀ c, U c → c ≠ z := fun z _ hz c hc e => by have := (h.lt c hc).2.1; omega
  refine ⟨fun c hc => ?_, fun c hc => ?_, Nat.lt_of_lt_of_le h.root hsz, fun e he => ?_, fun i j e f hi hj hij hh => ?_, fun w' hf => h.wand w' ⟨Nat.le_trans hsz hf.size, fun z hz => (hf.keep z (Or.inl hz)).trans (hkeep z hz), fun c hc q hq => ?_, fun c hc cur hcur => ?_, ?_⟩⟩
  · rcases hc with hc | ⟨h0, rfl⟩
    · obtain ⟨h1, h2, cur, h3⟩ := h.lt c hc
      obtain ⟨cur', h4, _⟩ := hshape c hc cur h3
      exact ⟨h1, Nat.lt_of_lt_of_le h2 hsz, cur', h4⟩
    · obtain ⟨h1, cur, h2⟩ := hbb h0
      exact ⟨by have := h.root; omega, blk_lt h2, cur, h2⟩
  · rcases hc with hc | hc | hc
    · obtain ⟨cur, h3⟩ := h.ltK c hc
      exact ⟨cur, (hkeep c hc).trans h3⟩
    · exact (hF1 c hc).2.1
    · exact (hF2 c hc).2
  · rcases List.mem_append.1 he with he | he
    · obtain ⟨h1, h2, h4⟩ := h.loc e (List.mem_append_left _ he)
      refine ⟨Or.inl h1, fun j hj => ?_, h4⟩
      obtain ⟨q, hq⟩ := h2 j hj
      refine ⟨q, (hsame _ h1 _ (fun hh => ?_)).trans hq⟩
      have := hf0 e he hh.1
      omega
    · have h0 := kn e he
      obtain ⟨h1, h2, j, z, hz, rfl⟩ := kidsM_mem he
      have hj := (List.getElem?_eq_some_iff.1 hz).1
      rcases hp with ⟨e, _⟩ | ⟨cur0, _, _, e2, e3, e4, e5, e6⟩
      · omega
      · refine ⟨Or.inr ⟨h0, rfl⟩, fun r hr => ?_, h2⟩
        have hin : j * 9 + r < cur0.size := by have := mul_lt_next (k := 9) (n := c) (show j < c by omega) hr; omega
        refine ⟨cur0[j * 9 + r], ?_⟩
        rw [cell_of_blk' e3]
        simp [hin]
  · by_cases hi0 : i < st0.length
    · rw [List.getElem?_append_left hi0] at hi
      by_cases hj0 : j < st0.length
      · rw [List.getElem?_append_left hj0] at hj
        exact h.apart i j e f (by rw [List.getElem?_append_left hi0]; exact hi) (by rw [List.getElem?_append_left hj0]; exact hj) hij hh
      · rw [List.getElem?_append_right (by omega)] at hj
        have h0 := kn f (List.mem_of_getElem? hj)
        obtain ⟨z, _, rfl⟩ := kidsM_at hj
        exact hne _ (h.loc e (List.mem_append_left _ (List.mem_of_getElem? hi))).1 h0 hh.1
    · rw [List.getElem?_append_right (by omega)] at hi
      have h0 := kn e (List.mem_of_getElem? hi)
      obtain ⟨z, _, rfl⟩ := kidsM_at hi
      by_cases hj0 : j < st0.length
      · rw [List.getElem?_append_left hj0] at hj
        exact hne _ (h.loc f (List.mem_append_left _ (List.mem_of_getElem? hj))).1 h0 hh.1.symm
      · rw [List.getElem?_append_right (by omega)] at hj
        obtain ⟨z2, _, rfl⟩ := kidsM_at hj
        have := hh.2
        simp only at this
        omega
  · rw [hf.same c (Or.inl hc) q (fun e he hh => ?_)]
    · exact hsame c hc q (fun hh => hq ⟨x, b, o⟩ (by simp) ⟨hh.1.symm, hh.2⟩)
    · rcases List.mem_append.1 he with he | he
      · exact hq e (List.mem_append_left _ he) hh
      · exact hne c hc (kn e he) ((kidsM_mem he).1 ▸ hh.1).symm
  · obtain ⟨cur', h1, h2⟩ := hshape c hc cur hcur
    obtain ⟨cur'', h3, h4⟩ := hf.shape c (Or.inl hc) cur' h1
    exact ⟨cur'', h3, h4.trans h2⟩
  · obtain ⟨G, g1, g2, g3⟩ := hf.full
    have hlen : (st0 ++ kidsM bb x.args).length = st0.length + x.args.length := by rw [List.length_append, kidsM_length]
    have freeK : ∀ q, o ≤ q → q < o + 9 → FreeM (st0 ++ kidsM bb x.args) b q := fun q hq1 hq2 e he hh => by
      rcases List.mem_append.1 he with he | he
      · have := hf0 e he hh.1
        omega
      · exact hne b hUb (kn e he) ((kidsM_mem he).1 ▸ hh.1).symm
    have kid : ∀ j z, x.args[j]? = some z → ∃ vs, Has9 w' bb (j * 9) vs ∧ OSt w' z.ds vs (G (st0.length + j)) := by
      intro j z hz
      exact g1 (st0.length + j) ⟨z, bb, j * 9⟩ (by rw [List.getElem?_append_right (by omega), show st0.length + j - st0.length = j by omega]; exact kidsM_get hz)
    have root9 : Has9 w' b o (tmL x tp tc rp rc p c) := ⟨h9.1, fun j hj => (hf.same b (Or.inl hUb) (o + j) (freeK _ (by omega) (by omega))).trans (h9.2 j hj)⟩
    have t1 : OS w' x.ty.args (.slice tp x.ty.args.length tc) F1 := h1.stays ⟨hf.size, fun z hz _ => hf.keep z (Or.inr (Or.inl hz))⟩
    have t2 : OS w' x.res.args (.slice rp x.res.args.length rc) F2 := h2.stays ⟨hf.size, fun z hz _ => hf.keep z (Or.inr (Or.inr hz))⟩
    have t3 : DO w' (tmD x.args) (.slice p x.args.length c) (fun z => (0 < x.args.length ∧ z = bb) ∨ ∃ j, j < x.args.length ∧ G (st0.length + j) z) := by
      rcases hp with ⟨e0, rfl, rfl⟩ | ⟨cur0, h0, rfl, e2, e3, e4, e5, e6⟩
      · obtain e := List.eq_nil_of_length_eq_zero e0
        rw [e]
        exact .nil _ _ _
      · obtain ⟨cur', c1, c2⟩ := hf.shape bb (Or.inr ⟨h0, rfl⟩) cur0 e3
        have ch : ∀ j, ∃ (vs : List Value) (GG : Nat → Nat → Prop), ∀ z, x.args[j]? = some z → Has9 w' bb (j * 9) vs ∧ (∀ (i : Nat) (d : D) (v : Value), z.ds[i]? = some d → vs[i]? = some v → DO w' d v (GG i)) ∧ (∀ i y, i < 9 → GG i y → G (st0.length + j) y) ∧
            ∀ i i' y, i < 9 → i' < 9 → i ≠ i' → GG i y → GG i' y → False := fun j => by
          by_cases hj : j < x.args.length
          · obtain ⟨vs, a1, a2, GG, b1, b2, b3⟩ := kid j x.args[j] (List.getElem?_eq_getElem hj)
            rw [Tm.ds_len] at b2 b3
            refine ⟨vs, GG, fun z hz => ?_⟩
            rw [List.getElem?_eq_getElem hj] at hz
            obtain rfl := Option.some.inj hz
            exact ⟨a1, b1, b2, b3⟩
          · exact ⟨[], fun _ _ => False, fun z hz => absurd (List.getElem?_eq_some_iff.1 hz).1 hj⟩
        obtain ⟨vs, hvs⟩ := Classical.axiomOfChoice ch
        obtain ⟨GG, hGG⟩ := Classical.axiomOfChoice hvs
        have at9 : ∀ i, i < x.args.length * 9 → i / 9 < x.args.length ∧ i % 9 < 9 ∧ i / 9 * 9 + i % 9 = i := fun i hi => by omega
        refine DO.rows cur' (fun i => ((vs (i / 9))[i % 9]?).getD .nilIface) (fun i z => GG (i / 9) (i % 9) z) c1 (by rw [c2, e4]) e5 e6 (flatTm_len _) (Or.inl ⟨h0, rfl⟩) (fun i hi => ?_) (fun i d hi => ?_) (fun i z hi hz => ?_) (fun i i' z hi hi' hii k1 k2 => ?_)
        · obtain ⟨a1, a2, a3⟩ := at9 i hi
          obtain ⟨⟨l9, c9⟩, _⟩ := hGG (i / 9) _ (List.getElem?_eq_getElem a1)
          have := c9 (i % 9) a2
          rw [cell_of_blk' c1, a3] at this
          rw [this, List.getElem?_eq_getElem (by omega)]
          rfl
        · have hi' : i < x.args.length * 9 := by rw [← flatTm_len]; exact (List.getElem?_eq_some_iff.1 hi).1
          obtain ⟨a1, a2, a3⟩ := at9 i hi'
          obtain ⟨⟨l9, c9⟩, b1, _⟩ := hGG (i / 9) _ (List.getElem?_eq_getElem a1)
          have e := flatTm_at x.args (i / 9) (i % 9) a1 a2
          rw [a3, hi] at e
          exact b1 (i % 9) d _ e.symm (by rw [List.getElem?_eq_getElem (by omega)]; rfl)
        · obtain ⟨a1, a2, a3⟩ := at9 i hi
          obtain ⟨_, _, b2, _⟩ := hGG (i / 9) _ (List.getElem?_eq_getElem a1)
          have hz1 := b2 _ z a2 hz
          have hz2 := g2 (st0.length + i / 9) z (by omega) hz1
          have hz3 := blk_lt e3
          exact ⟨Or.inr ⟨i / 9, a1, hz1⟩, by omega⟩
        · obtain ⟨a1, a2, a3⟩ := at9 i hi
          obtain ⟨b1, b2, b3⟩ := at9 i' hi'
          obtain ⟨_, _, p1, p2⟩ := hGG (i / 9) _ (List.getElem?_eq_getElem a1)
          by_cases hq : i / 9 = i' / 9
          · rw [← hq] at k2
            exact p2 _ _ z a2 b2 (by omega) k1 k2
          · obtain ⟨_, _, q1, _⟩ := hGG (i' / 9) _ (List.getElem?_eq_getElem b1)
            exact g3 _ _ z (by omega) (by omega) (by omega) (p1 _ z a2 k1) (q1 _ z b2 k2)
    have g2' : ∀ j z, j < x.args.length → G (st0.length + j) z → wn.heap.size ≤ z := fun j z hj hz => g2 (st0.length + j) z (by omega) hz
    have notT : ∀ z, BlkT wn z → ¬ ((0 < x.args.length ∧ z = bb) ∨ ∃ j, j < x.args.length ∧ G (st0.length + j) z) := fun z hz hh => by
      rcases hh with ⟨a1, rfl⟩ | ⟨j, hj, hg⟩
      · exact (hbb a1).2.not hz
      · have := g2' j z hj hg
        have := hz.lt
        omega
    refine ⟨fun i => if i < st0.length then G i else fun z => F1 z ∨ F2 z ∨ ((0 < x.args.length ∧ z = bb) ∨ ∃ j, j < x.args.length ∧ G (st0.length + j) z), fun i e hi => ?_, fun i z hi hz => ?_, fun i j z hi hj hij hz1 hz2 => ?_⟩
    · by_cases hi0 : i < st0.length
      · simp only [if_pos hi0]
        rw [List.getElem?_append_left hi0] at hi
        exact g1 i e (by rw [List.getElem?_append_left hi0]; exact hi)
      · simp only [if_neg hi0]
        rw [List.getElem?_append_right (by omega)] at hi
        have hi1 : i - st0.length = 0 := by
          have := (List.getElem?_eq_some_iff.1 hi).1
          simp at this
          omega
        rw [hi1] at hi
        simp at hi
        subst hi
        exact ⟨_, root9, OSt9 t1 t2 t3 (fun z hz => ⟨Or.inl hz, (hF1 z hz).2.2, notT z (hF1 z hz).2.1⟩) (fun z hz => ⟨Or.inr (Or.inl hz), notT z (hF2 z hz).2⟩) (fun z hz => Or.inr (Or.inr hz))⟩
    · by_cases hi0 : i < st0.length
      · simp only [if_pos hi0] at hz
        exact Nat.le_trans hsz (g2 i z (by omega) hz)
      · simp only [if_neg hi0] at hz
        rcases hz with hz | hz | ⟨a1, rfl⟩ | ⟨j, hj, hz⟩
        · exact (hF1 z hz).1
        · exact (hF2 z hz).1
        · exact (hbb a1).1
        · exact Nat.le_trans hsz (g2' j z hj hz)
    · rw [List.length_append, List.length_singleton] at hi hj
      have key : ∀ i z, i < st0.length → G i z → ¬ (F1 z ∨ F2 z ∨ ((0 < x.args.length ∧ z = bb) ∨ ∃ j, j < x.args.length ∧ G (st0.length + j) z)) := fun i z hi hz hh => by
        have hg := g2 i z (by omega) hz
        rcases hh with h1 | h1 | ⟨a1, rfl⟩ | ⟨j, hj, h1⟩
        · have := (hF1 z h1).2.1.lt
          omega
        · have := (hF2 z h1).2.lt
          omega
        · obtain ⟨_, hb2⟩ := (hbb a1).2
          have := blk_lt hb2
          omega
        · exact g3 i _ z (by omega) (by omega) (by omega) hz h1
      by_cases hi0 : i < st0.length
      · simp only [if_pos hi0] at hz1
        by_cases hj0 : j < st0.length
        · simp only [if_pos hj0] at hz2
          exact g3 i j z (by omega) (by omega) hij hz1 hz2
        · simp only [if_neg hj0] at hz2
          exact key i z hi0 hz1 hz2
      · simp only [if_neg hi0] at hz1
        have hj0 : j < st0.length := by omega
        simp only [if_pos hj0] at hz2
        exact key j z hj0 hz2 hz1
end
end Go.Proofs.YtingnigiijdllaaDoor
namespace Go.Proofs.YtingnigiijdllaaDoor
open Go Go.RowKit

theorem ds_cell {w : World} {C : Nat → Prop} {x : Tm} {i : Nat} {d : D} {v : Value} (hd : x.ds[i]? = some d) (h : DM w C d v) : v.oneCell' = true := by
  rw [x.ds_eq] at hd
  match i, hd with
  | 0, hd => cases hd; rw [h.val]; rfl
  | 1, hd => cases hd; rw [h.val]; rfl
  | 2, hd => cases hd; rw [h.val]; rfl
  | 3, hd => cases hd; rw [h.val]; rfl
  | 4, hd => cases hd; rw [h.val]; rfl
  | 5, hd => cases hd; obtain ⟨a, c, rfl⟩ := h.form; rfl
  | 6, hd => cases hd; rw [h.val]; rfl
  | 7, hd => cases hd; obtain ⟨a, c, rfl⟩ := h.form; rfl
  | 8, hd => cases hd; obtain ⟨a, c, rfl⟩ := h.form; rfl
  | n + 9, hd => simp at hd
theorem app_emptyM (p : Option Addr) (c : Nat) (w : World) (ty : TypeId) : (Builtin.append_ #[33, 33] ty #[.slice none 0 0, .slice p 0 c]).run Tryd.prog w = .ok (.slice none 0 0) w := by
  cases p <;> simp [Builtin.append_, go_sem]
theorem app_terms {C : Nat → Prop} {ts : List Tm} {p : Option Addr} {c : Nat} {w : World} (h : DM w C (tmD ts) (.slice p ts.length c)) (hn : ts.length ≤ 2097152) (ty : TypeId) :
    ∃ p' c' bb w', (Builtin.append_ #[33, 33] ty #[.slice none 0 0, .slice p ts.length c]).run Tryd.prog w = .ok (.slice p' ts.length c') w' ∧ PartsM w w' ts.length p' c' bb ∧ Below w.heap.size w w' := by
  by_cases h0 : ts.length = 0
  · rw [h0]
    exact ⟨_, _, 0, _, app_emptyM p c w ty, Or.inl ⟨rfl, rfl, rfl⟩, Below.refl _ _⟩
  obtain ⟨j0, hj, hy0, hy1, hy2⟩ := info_parts infoTm
  have hl : (flatTm ts).length = ts.length * 9 := flatTm_len ts
  obtain ⟨b, o, V, rfl, hC, hb, hp⟩ := h.part (by rw [hl]; omega)
  have hcell : ∀ i, i < ts.length * 9 → w.cell? ⟨b, o + i, none⟩ = some (V i) ∧ (V i).oneCell' = true := fun i hi => by
    obtain ⟨hd, hw⟩ := hp i _ (List.getElem?_eq_getElem (by omega))
    refine ⟨hw w (.of_below (Below.refl _ _)), ?_⟩
    have e := flatTm_at ts (i / 9) (i % 9) (by omega) (by omega)
    rw [show i / 9 * 9 + i % 9 = i by omega, List.getElem?_eq_getElem (by omega)] at e
    exact ds_cell e.symm hd
  obtain ⟨s', w', hr, ho, hg, hwh⟩ := run_app (P := Tryd.prog) w.heap.size 33 ty 35 j0 _ 9 _ Tryd.underlying33 hj hy0 hy1 hy2 rfl (by decide)
    (.slice none 0 0) 0 [] (World.ownsRow_nil w _ _ _) ⟨b, o, none⟩ ts.length c ((List.range (ts.length * 9)).map V) (by simp) (fun j u hu => by
      rw [List.getElem?_map, Option.map_eq_some_iff] at hu
      obtain ⟨i, hi, rfl⟩ := hu
      have hlt := (List.getElem?_eq_some_iff.1 hi).1
      rw [List.length_range] at hlt
      rw [List.getElem?_range hlt] at hi
      obtain rfl := Option.some.inj hi
      rw [show ((⟨b, o, none⟩ : Addr).add j) = ⟨b, o + j, none⟩ by unfold Addr.add; split <;> simp_all]
      exact (hcell _ hlt).1) (fun u hu => by
      obtain ⟨i, hi, rfl⟩ := List.mem_map.1 hu
      exact (hcell i (List.mem_range.1 hi)).2) (by unfold maxLen; omega) (by omega) (Nat.le_refl _)
  have hbel : Below w.heap.size w w' := (Below.refl _ _).grown hg (Nat.le_refl _) (fun k hk => by cases hk)
  rw [Nat.zero_add] at ho
  obtain ⟨hl2, h1 | ⟨g, cap, cur, rfl, hgb, hblk, hnc, hcm, hcs, htk⟩⟩ := ho
  · exact absurd h1.2 h0
  · exact ⟨_, _, g, w', hr, Or.inr ⟨cur, by omega, rfl, hgb, hblk, hcs, hnc, hcm⟩, hbel⟩
theorem PartsM.keep {w w0 wn W : World} {n c bb : Nat} {p : Option Addr} (h : PartsM w wn n p c bb) (hs : w0.heap.size ≤ w.heap.size) (hb : w.heap.size ≤ bb → bb < wn.heap.size → W.heap[bb]? = wn.heap[bb]?) : PartsM w0 W n p c bb := by
  rcases h with h | ⟨cur0, h0, h1, h2, h3, h4⟩
  · exact Or.inl h
  · exact Or.inr ⟨cur0, h0, h1, Nat.le_trans hs h2, (hb h2 (blk_lt h3)).trans h3, h4⟩
end Go.Proofs.YtingnigiijdllaaDoor
namespace Go.Proofs.YtingnigiijdllaaDoor
open Go Go.RowKit
def Ty.same (t : Ty) : Ty := t
theorem same_node (x : Ty) : x.same = .mk x.kind (x.args.map Ty.same) := by
  have h : x.args.map Ty.same = x.args := by
    have : Ty.same = id := rfl
    rw [this, List.map_id]
  rw [h]
  cases x; rfl
structure FilledC (w w' : World) (U : Nat → Prop) (st : List Job) : Prop where
  size : w.heap.size ≤ w'.heap.size
  same : ∀ b, U b → ∀ o, Free st b o → w'.cell? ⟨b, o, none⟩ = w.cell? ⟨b, o, none⟩
  shape : ∀ b, U b → ∀ cur : Array Value, w.heap[b]? = some (.cells cur 32 (0, 0)) → ∃ cur' : Array Value, w'.heap[b]? = some (.cells cur' 32 (0, 0)) ∧ cur'.size = cur.size
  full : ∃ G : Nat → Nat → Prop, (∀ i e, st[i]? = some e → ∃ s, w'.cell? ⟨e.b, e.o, none⟩ = some (.int .i64 e.x.same.kind) ∧ w'.cell? ⟨e.b, e.o + 1, none⟩ = some s ∧ OS w' e.x.same.args s (G i)) ∧
    (∀ i z, i < st.length → G i z → w.heap.size ≤ z) ∧ (∀ i j z, i < st.length → j < st.length → i ≠ j → G i z → G j z → False)
structure CyInv (w : World) (U : Nat → Prop) (st : List Job) (R : Nat) (T : Ty) : Prop where
  lt : ∀ b, U b → R ≤ b ∧ b < w.heap.size ∧ ∃ cur, w.heap[b]? = some (.cells cur 32 (0, 0))
  root : R < w.heap.size
  loc : ∀ e ∈ st, U e.b ∧ (∃ q, w.cell? ⟨e.b, e.o, none⟩ = some (.int .i64 q)) ∧ (∃ u, w.cell? ⟨e.b, e.o + 1, none⟩ = some u) ∧ e.o % 2 = 0
  apart : ∀ (i j : Nat) (e f : Job), st[i]? = some e → st[j]? = some f → i ≠ j → ¬ (e.b = f.b ∧ e.o = f.o)
  wand : ∀ w', FilledC w w' U st → RootDone w' R T

theorem CyInv.start {w : World} {R : Nat} {t : Ty} (h : w.heap[R]? = some (.cells #[.int .i64 0, .slice none 0 0] 32 (0, 0))) : CyInv w (fun b => b = R) [⟨t, R, 0⟩] R t.same := by
  have hlt := (Array.getElem?_eq_some_iff.1 h).1
  refine ⟨fun b hb => by subst hb; exact ⟨Nat.le_refl _, hlt, _, h⟩, hlt, fun e he => ?_, fun i j e f hi hj hij => ?_, fun w' hf => ?_⟩
  · simp only [List.mem_singleton] at he
    subst he
    exact ⟨rfl, ⟨0, by simp [World.cell?, h]⟩, ⟨.slice none 0 0, by simp [World.cell?, h]⟩, rfl⟩
  · have h1 := (List.getElem?_eq_some_iff.1 hi).1
    have h2 := (List.getElem?_eq_some_iff.1 hj).1
    simp only [List.length_singleton] at h1 h2
    omega
  · obtain ⟨G, h1, h2, _⟩ := hf.full
    obtain ⟨s', e1, e2, e3⟩ := h1 0 _ rfl
    exact ⟨s', e1, e2, e3.mono (fun b hb => Nat.lt_of_lt_of_le hlt (h2 0 b (by simp) hb))⟩

theorem CyInv.done {w : World} {U : Nat → Prop} {R : Nat} {T : Ty} (h : CyInv w U [] R T) : RootDone w R T :=
  h.wand w ⟨Nat.le_refl _, fun _ _ _ _ => rfl, fun _ _ cur hc => ⟨cur, hc, rfl⟩, fun _ _ => False, fun i e hi => by simp at hi, fun i z hi => by simp at hi, fun i j z hi => by simp at hi⟩

theorem CyInv.frame {w w2 : World} {U : Nat → Prop} {st : List Job} {R : Nat} {T : Ty} (h : CyInv w U st R T) (hs : w.heap.size ≤ w2.heap.size) (hU : ∀ c, U c → w2.heap[c]? = w.heap[c]?) : CyInv w2 U st R T := by
  have hc : ∀ c q, U c → w2.cell? ⟨c, q, none⟩ = w.cell? ⟨c, q, none⟩ := fun c q hc => World.cell?_of_block (hU c hc)
  refine ⟨fun b hb => ?_, Nat.lt_of_lt_of_le h.root hs, fun e he => ?_, h.apart, fun w' hf => h.wand w' ⟨Nat.le_trans hs hf.size, fun b hb o ho => (hf.same b hb o ho).trans (hc b o hb), fun b hb cur hcur => hf.shape b hb cur ((hU b hb).trans hcur), ?_⟩⟩
  · obtain ⟨h1, h2, cur, h3⟩ := h.lt b hb
    exact ⟨h1, Nat.lt_of_lt_of_le h2 hs, cur, (hU b hb).trans h3⟩
  · obtain ⟨h1, ⟨q, h2⟩, ⟨u, h3⟩, h4⟩ := h.loc e he
    exact ⟨h1, ⟨q, (hc _ _ h1).trans h2⟩, ⟨u, (hc _ _ h1).trans h3⟩, h4⟩
  · obtain ⟨G, g1, g2, g3⟩ := hf.full
    exact ⟨G, g1, fun i z hi hz => Nat.le_trans hs (g2 i z hi hz), g3⟩

section
variable {w wn : World} {U : Nat → Prop} {st0 : List Job} {x y : Ty} {b o R : Nat} {T : Ty}
theorem CyInv.other (h : CyInv w U (st0 ++ [⟨x, b, o⟩]) R T) : Free st0 b o ∧ Free st0 b (o + 1) := by
  have key : ∀ q, q = o ∨ q = o + 1 → Free st0 b q := by
    intro q hq e he hh
    obtain ⟨i, hi⟩ := List.getElem?_of_mem he
    have hil := (List.getElem?_eq_some_iff.1 hi).1
    have h1 := h.apart i st0.length e ⟨x, b, o⟩ (by rw [List.getElem?_append_left hil]; exact hi) (by simp) (by omega)
    have h2 := (h.loc e (List.mem_append_left _ he)).2.2.2
    have h3 := (h.loc ⟨x, b, o⟩ (by simp)).2.2.2
    simp only at h3
    exact h1 ⟨hh.1, by simp only; omega⟩
  exact ⟨key o (Or.inl rfl), key (o + 1) (Or.inr rfl)⟩
theorem CyInv.node (h : CyInv w U (st0 ++ [⟨x, b, o⟩]) R T) (hy : x.same = .mk y.kind (y.args.map Ty.same)) (hsz : w.heap.size ≤ wn.heap.size)
    (hsame : ∀ c, U c → ∀ q, ¬ (c = b ∧ (q = o ∨ q = o + 1)) → wn.cell? ⟨c, q, none⟩ = w.cell? ⟨c, q, none⟩)
    (hshape : ∀ c, U c → ∀ cur : Array Value, w.heap[c]? = some (.cells cur 32 (0, 0)) → ∃ cur' : Array Value, wn.heap[c]? = some (.cells cur' 32 (0, 0)) ∧ cur'.size = cur.size)
    (hk : wn.cell? ⟨b, o, none⟩ = some (.int .i64 y.kind)) {b' cc : Nat} {KK : Nat → Int} {SS0 : Nat → Value} (hb' : w.heap.size ≤ b') (hrow : Row wn b' y.args.length cc KK SS0) (hm : cc ≤ maxLen)
    (ha : wn.cell? ⟨b, o + 1, none⟩ = some (.slice (some ⟨b', 0, none⟩) y.args.length cc)) :
    CyInv wn (fun c => U c ∨ c = b') (st0 ++ kidsOf b' y.args) R T := by
  obtain ⟨hf0, hf1⟩ := h.other
  have hUb : U b := (h.loc ⟨x, b, o⟩ (by simp)).1
  have hne : ∀ c, U c → c ≠ b' := fun c hc e => by have := (h.lt c hc).2.1; omega
  have hb'n := hrow.lt
  refine ⟨fun c hc => ?_, Nat.lt_of_lt_of_le h.root hsz, fun e he => ?_, fun i j e f hi hj hij hh => ?_, fun w' hf => h.wand w' ⟨Nat.le_trans hsz hf.size, fun c hc q hq => ?_, fun c hc cur hcur => ?_, ?_⟩⟩
  · rcases hc with hc | rfl
    · obtain ⟨h1, h2, cur, h3⟩ := h.lt c hc
      obtain ⟨cur', h4, _⟩ := hshape c hc cur h3
      exact ⟨h1, Nat.lt_of_lt_of_le h2 hsz, cur', h4⟩
    · obtain ⟨cur, h1, _⟩ := hrow
      exact ⟨by have := h.root; omega, hb'n, cur, h1⟩
  · rcases List.mem_append.1 he with he | he
    · obtain ⟨h1, ⟨q, h2⟩, ⟨u, h3⟩, h4⟩ := h.loc e (List.mem_append_left _ he)
      have hd : ¬ (e.b = b ∧ (e.o = o ∨ e.o = o + 1)) ∧ ¬ (e.b = b ∧ (e.o + 1 = o ∨ e.o + 1 = o + 1)) := by
        have g0 := hf0 e he
        have g1 := hf1 e he
        have h5 := (h.loc ⟨x, b, o⟩ (by simp)).2.2.2
        simp only at h5
        constructor <;> rintro ⟨e1, e2⟩ <;> omega
      exact ⟨Or.inl h1, ⟨q, (hsame _ h1 _ hd.1).trans h2⟩, ⟨u, (hsame _ h1 _ hd.2).trans h3⟩, h4⟩
    · obtain ⟨h1, h2, j, z, hz, rfl⟩ := kidsOf_mem he
      have hj := (List.getElem?_eq_some_iff.1 hz).1
      exact ⟨Or.inr rfl, ⟨_, hrow.kind hj⟩, ⟨_, hrow.args hj⟩, h2⟩
  · by_cases hi0 : i < st0.length
    · rw [List.getElem?_append_left hi0] at hi
      by_cases hj0 : j < st0.length
      · rw [List.getElem?_append_left hj0] at hj
        exact h.apart i j e f (by rw [List.getElem?_append_left hi0]; exact hi) (by rw [List.getElem?_append_left hj0]; exact hj) hij hh
      · rw [List.getElem?_append_right (by omega)] at hj
        obtain ⟨z, _, rfl⟩ := kidsOf_at hj
        exact hne _ (h.loc e (List.mem_append_left _ (List.mem_of_getElem? hi))).1 hh.1
    · rw [List.getElem?_append_right (by omega)] at hi
      obtain ⟨z, _, rfl⟩ := kidsOf_at hi
      by_cases hj0 : j < st0.length
      · rw [List.getElem?_append_left hj0] at hj
        exact hne _ (h.loc f (List.mem_append_left _ (List.mem_of_getElem? hj))).1 hh.1.symm
      · rw [List.getElem?_append_right (by omega)] at hj
        obtain ⟨z2, _, rfl⟩ := kidsOf_at hj
        have := hh.2
        simp only at this
        omega
  · rw [hf.same c (Or.inl hc) q (fun e he hh => ?_)]
    · exact hsame c hc q (fun hh => hq ⟨x, b, o⟩ (by simp) ⟨hh.1.symm, hh.2⟩)
    · rcases List.mem_append.1 he with he | he
      · exact hq e (List.mem_append_left _ he) hh
      · exact hne c hc ((kidsOf_mem he).1 ▸ hh.1).symm
  · obtain ⟨cur', h1, h2⟩ := hshape c hc cur hcur
    obtain ⟨cur'', h3, h4⟩ := hf.shape c (Or.inl hc) cur' h1
    exact ⟨cur'', h3, h4.trans h2⟩
  · obtain ⟨G, g1, g2, g3⟩ := hf.full
    have hlen : (st0 ++ kidsOf b' y.args).length = st0.length + y.args.length := by rw [List.length_append, kidsOf_length]
    have freeK : ∀ q, Free st0 b q → Free (st0 ++ kidsOf b' y.args) b q := fun q hq e he hh => by
      rcases List.mem_append.1 he with he | he
      · exact hq e he hh
      · exact hne b hUb ((kidsOf_mem he).1 ▸ hh.1).symm
    have kid : ∀ j z, y.args[j]? = some z → ∃ s, w'.cell? ⟨b', j * 2, none⟩ = some (.int .i64 z.same.kind) ∧ w'.cell? ⟨b', j * 2 + 1, none⟩ = some s ∧ OS w' z.same.args s (G (st0.length + j)) := by
      intro j z hz
      have := g1 (st0.length + j) ⟨z, b', j * 2⟩ (by rw [List.getElem?_append_right (by omega), show st0.length + j - st0.length = j by omega]; exact kidsOf_get hz)
      exact this
    obtain ⟨cur0, r1, r2, r3, _⟩ := hrow
    obtain ⟨cur', c1, c2⟩ := hf.shape b' (Or.inr rfl) cur0 r1
    classical
    let S : Nat → Value := fun j => if hj : j < y.args.length then Classical.choose (kid j y.args[j] (List.getElem?_eq_getElem hj)) else .slice none 0 0
    have hS : ∀ j z, y.args[j]? = some z → w'.cell? ⟨b', j * 2, none⟩ = some (.int .i64 z.same.kind) ∧ w'.cell? ⟨b', j * 2 + 1, none⟩ = some (S j) ∧ OS w' z.same.args (S j) (G (st0.length + j)) := by
      intro j z hz
      obtain ⟨hj, rfl⟩ := List.getElem?_eq_some_iff.1 hz
      have e : S j = Classical.choose (kid j y.args[j] (List.getElem?_eq_getElem hj)) := dif_pos hj
      rw [e]
      exact Classical.choose_spec (kid j y.args[j] (List.getElem?_eq_getElem hj))
    refine ⟨fun i => if i < st0.length then G i else fun z => z = b' ∨ ∃ j, j < y.args.length ∧ G (st0.length + j) z, fun i e hi => ?_, fun i z hi hz => ?_, fun i j z hi hj hij hz1 hz2 => ?_⟩
    · by_cases hi0 : i < st0.length
      · simp only [if_pos hi0]
        rw [List.getElem?_append_left hi0] at hi
        exact g1 i e (by rw [List.getElem?_append_left hi0]; exact hi)
      · simp only [if_neg hi0]
        rw [List.getElem?_append_right (by omega)] at hi
        have hi1 : i - st0.length = 0 := by
          have := (List.getElem?_eq_some_iff.1 hi).1
          simp at this
          omega
        rw [hi1] at hi
        simp at hi
        subst hi
        refine ⟨.slice (some ⟨b', 0, none⟩) y.args.length cc, ?_, ?_, ?_⟩
        · rw [hf.same b (Or.inl hUb) o (freeK o hf0), hk, hy]; rfl
        · rw [hf.same b (Or.inl hUb) (o + 1) (freeK _ hf1), ha]
        · rw [hy]
          have hl : (y.args.map Ty.same).length = y.args.length := List.length_map _
          have key := OS.row (w := w') (ts := y.args.map Ty.same) (b := b') (c := cc) (F := fun z => z = b' ∨ ∃ j, j < y.args.length ∧ G (st0.length + j) z)
            (fun j => ((y.args.map Ty.same)[j]?.getD (.mk 0 [])).kind) S (fun j => G (st0.length + j)) ?_ hm (Or.inl rfl) (fun j z hz => by rw [hz]; rfl) (fun j z hz => ?_) (fun j z hj hz => ?_) (fun i j z hi hj hij h1 h2 => ?_)
          · rw [hl] at key
            exact key
          · refine ⟨cur', c1, by rw [c2, r2], by rw [hl]; exact r3, fun j hj => ?_⟩
            rw [hl] at hj
            obtain ⟨e1, e2, _⟩ := hS j _ (List.getElem?_eq_getElem hj)
            rw [cell_of_blk' c1] at e1 e2
            refine ⟨?_, e2⟩
            rw [e1]
            simp [hj]
          · rw [List.getElem?_map, Option.map_eq_some_iff] at hz
            obtain ⟨z', hz', rfl⟩ := hz
            exact (hS j z' hz').2.2
          · rw [hl] at hj
            have := g2 (st0.length + j) z (by omega) hz
            exact ⟨Or.inr ⟨j, hj, hz⟩, by omega⟩
          · rw [hl] at hi hj
            exact g3 _ _ z (by omega) (by omega) (by omega) h1 h2
    · by_cases hi0 : i < st0.length
      · simp only [if_pos hi0] at hz
        exact Nat.le_trans hsz (g2 i z (by omega) hz)
      · simp only [if_neg hi0] at hz
        rcases hz with rfl | ⟨j, hj, hz⟩
        · exact hb'
        · exact Nat.le_trans hsz (g2 _ z (by omega) hz)
    · rw [List.length_append, List.length_singleton] at hi hj
      by_cases hi0 : i < st0.length
      · simp only [if_pos hi0] at hz1
        have hj0 : j < st0.length ∨ j = st0.length := by omega
        rcases hj0 with hj0 | rfl
        · simp only [if_pos hj0] at hz2
          exact g3 i j z (by omega) (by omega) hij hz1 hz2
        · simp only [Nat.lt_irrefl, if_false] at hz2
          rcases hz2 with rfl | ⟨m, hm', hz2⟩
          · have := g2 i z (by omega) hz1
            omega
          · exact g3 i _ z (by omega) (by omega) (by omega) hz1 hz2
      · have hi1 : i = st0.length := by omega
        subst hi1
        simp only [Nat.lt_irrefl, if_false] at hz1
        have hj0 : j < st0.length := by omega
        simp only [if_pos hj0] at hz2
        rcases hz1 with rfl | ⟨m, hm', hz1⟩
        · have := g2 j z (by omega) hz2
          omega
        · exact g3 _ j z (by omega) (by omega) (by omega) hz1 hz2
theorem CyInv.leaf (h : CyInv w U (st0 ++ [⟨x, b, o⟩]) R T) (hy : x.same = .mk y.kind []) (hsz : w.heap.size ≤ wn.heap.size)
    (hsame : ∀ c, U c → ∀ q, ¬ (c = b ∧ (q = o ∨ q = o + 1)) → wn.cell? ⟨c, q, none⟩ = w.cell? ⟨c, q, none⟩)
    (hshape : ∀ c, U c → ∀ cur : Array Value, w.heap[c]? = some (.cells cur 32 (0, 0)) → ∃ cur' : Array Value, wn.heap[c]? = some (.cells cur' 32 (0, 0)) ∧ cur'.size = cur.size)
    (hk : wn.cell? ⟨b, o, none⟩ = some (.int .i64 y.kind)) (ha : wn.cell? ⟨b, o + 1, none⟩ = some (.slice none 0 0)) : CyInv wn U st0 R T := by
  obtain ⟨hf0, hf1⟩ := h.other
  have hUb : U b := (h.loc ⟨x, b, o⟩ (by simp)).1
  refine ⟨fun c hc => ?_, Nat.lt_of_lt_of_le h.root hsz, fun e he => ?_, fun i j e f hi hj hij => ?_, fun w' hf => h.wand w' ⟨Nat.le_trans hsz hf.size, fun c hc q hq => ?_, fun c hc cur hcur => ?_, ?_⟩⟩
  · obtain ⟨h1, h2, cur, h3⟩ := h.lt c hc
    obtain ⟨cur', h4, _⟩ := hshape c hc cur h3
    exact ⟨h1, Nat.lt_of_lt_of_le h2 hsz, cur', h4⟩
  · obtain ⟨h1, ⟨q, h2⟩, ⟨u, h3⟩, h4⟩ := h.loc e (List.mem_append_left _ he)
    have hd : ¬ (e.b = b ∧ (e.o = o ∨ e.o = o + 1)) ∧ ¬ (e.b = b ∧ (e.o + 1 = o ∨ e.o + 1 = o + 1)) := by
      have g0 := hf0 e he
      have g1 := hf1 e he
      have h5 := (h.loc ⟨x, b, o⟩ (by simp)).2.2.2
      simp only at h5
      constructor <;> rintro ⟨e1, e2⟩ <;> omega
    exact ⟨h1, ⟨q, (hsame _ h1 _ hd.1).trans h2⟩, ⟨u, (hsame _ h1 _ hd.2).trans h3⟩, h4⟩
  · have hi0 := (List.getElem?_eq_some_iff.1 hi).1
    have hj0 := (List.getElem?_eq_some_iff.1 hj).1
    exact h.apart i j e f (by rw [List.getElem?_append_left hi0]; exact hi) (by rw [List.getElem?_append_left hj0]; exact hj) hij
  · rw [hf.same c hc q (fun e he hh => hq e (List.mem_append_left _ he) hh)]
    exact hsame c hc q (fun hh => hq ⟨x, b, o⟩ (by simp) ⟨hh.1.symm, hh.2⟩)
  · obtain ⟨cur', h1, h2⟩ := hshape c hc cur hcur
    obtain ⟨cur'', h3, h4⟩ := hf.shape c hc cur' h1
    exact ⟨cur'', h3, h4.trans h2⟩
  · obtain ⟨G, g1, g2, g3⟩ := hf.full
    refine ⟨fun i => if i < st0.length then G i else fun _ => False, fun i e hi => ?_, fun i z hi hz => ?_, fun i j z hi hj hij hz1 hz2 => ?_⟩
    · by_cases hi0 : i < st0.length
      · simp only [if_pos hi0]
        rw [List.getElem?_append_left hi0] at hi
        exact g1 i e hi
      · simp only [if_neg hi0]
        rw [List.getElem?_append_right (by omega)] at hi
        have hi1 : i - st0.length = 0 := by
          have := (List.getElem?_eq_some_iff.1 hi).1
          simp at this
          omega
        rw [hi1] at hi
        simp at hi
        subst hi
        refine ⟨.slice none 0 0, ?_, ?_, ?_⟩
        · rw [hf.same b hUb o hf0, hk, hy]; rfl
        · rw [hf.same b hUb (o + 1) hf1, ha]
        · rw [hy]; exact .none _
    · by_cases hi0 : i < st0.length
      · simp only [if_pos hi0] at hz
        exact Nat.le_trans hsz (g2 i z hi0 hz)
      · simp only [if_neg hi0] at hz
    · by_cases hi0 : i < st0.length
      · by_cases hj0 : j < st0.length
        · simp only [if_pos hi0] at hz1
          simp only [if_pos hj0] at hz2
          exact g3 i j z hi0 hj0 hij hz1 hz2
        · simp only [if_neg hj0] at hz2
      · simp only [if_neg hi0] at hz1
end
end Go.Proofs.YtingnigiijdllaaDoor
namespace Go.Proofs.YtingnigiijdllaaDoor
open Go Go.RowKit
def SameRet (x : Ty) (W0 W : World) (C : Nat → Prop) (e : Ending) (W' : World) : Prop :=
  ∃ (y : Ty) (p : Option Addr) (c : Nat) (s' : Value), e = .returned (.tuple #[.agg #[.int .i64 y.kind, s'], .slice p y.args.length c]) ∧ x.same = .mk y.kind (y.args.map Ty.same) ∧ y.nodes ≤ x.nodes ∧ TS W0 C y.args (.slice p y.args.length c) ∧ Part W W' y.args.length s' ∧ Below W.heap.size W W'
theorem cpN_any {C : Nat → Prop} {x : Ty} {p : Option Addr} {c : Nat} {w0' w : World} (hw0' : Below w0'.heap.size w0' w) (h : TS w0' C x.args (.slice p x.args.length c)) (hn : x.nodes ≤ 2097153) :
    Calls Tryd.prog 106 #[.agg #[.int .i64 x.kind, .slice p x.args.length c]] w (SameRet x w0' w C) := by
  refine (copyN_any (y := x) (h.keep hw0') (by have := nodesS_ge x.args; have := x.nodes_eq; omega)).mono ?_
  rintro e w' ⟨s', rfl, hp, hb⟩
  exact ⟨x, p, c, s', rfl, same_node x, Nat.le_refl _, h, hp, hb⟩
structure EC (w wr : World) (t : Ty) (st : Jobs) (g cap : Nat) (U : Nat → Prop) : Prop where
  own : wr.ownsRow w.heap.size 135 3 (.slice (some ⟨g, 0, none⟩) st.length cap) st.length (tcells st)
  ts : ∀ e ∈ st, TS w (· < w.heap.size) e.1.x.args e.2
  inv : CyInv wr U (st.map (·.1)) (w.heap.size + 1 + 1) t.same
  gU : ¬ U g
  res : wr.heap[w.heap.size + 1]? = some (.cells #[.int .i64 0, .slice none 0 0] 32 (0, 0))
  below : Below w.heap.size w wr

set_option maxRecDepth 100000 in
set_option maxHeartbeats 4000000 in
theorem growC_any {C : Nat → Prop} {t : Ty} {p : Option Addr} {c : Nat} {w : World} (hS : TS w C t.args (.slice p t.args.length c)) (hn : t.nodes ≤ 1048577) :
    Calls Tryd.prog 105 #[.agg #[.int .i64 t.kind, .slice p t.args.length c], .func (.func 99) #[] #[], .func (.func 106) #[] #[]] w (NewT t.same w) := by
  obtain ⟨i0, hi, hz0, hz1, hz2⟩ := info_parts infoTk
  have HS := Lib.hid (hS.mono (C' := (· < w.heap.size)) (fun b _ h => h))
  clear hS
  go_enter Tryd.func105, Tryd.ntmps105
  go_wp2_with fail
  go_loopg [8] t.nodes (fun gk v wr => ∃ (st : Jobs) (g cap : Nat) (U : Nat → Prop), v = .slice (some ⟨g, 0, none⟩) st.length cap ∧ gk = tload st ∧ tload st ≤ t.nodes ∧ EC w wr t st g cap U)
  case atStart =>
    obtain ⟨wl, hwl, hsz, hbl, q0, q1, q2⟩ := loop_world3 w #[.int .i64 t.kind, .slice p t.args.length c] #[.int .i64 0, .slice none 0 0] #[.int .i64 0, .slice none 0 0] 32 32 32
    rw [hwl]
    have hb4 := (Below.refl wl.heap.size wl).alloc (Nat.le_refl _) (.cells #[.int .i64 t.kind, .slice p t.args.length c, .pointer (some ⟨w.heap.size + 1 + 1, 0, none⟩)] 135)
    refine ⟨[(⟨t, w.heap.size + 1 + 1, 0⟩, .slice p t.args.length c)], w.heap.size + 1 + 1 + 1, 1, fun b => b = w.heap.size + 1 + 1, rfl, by simp [tload], by simp [tload], ?_, ?_, ?_, by omega, ?_, ?_⟩
    · have h1 := World.ownsRow_lit (base := w.heap.size) (e := 135) (size := 3) wl #[.int .i64 t.kind, .slice p t.args.length c, .pointer (some ⟨w.heap.size + 1 + 1, 0, none⟩)] 1 (by omega) (by unfold maxLen; omega) rfl
      rw [hsz] at h1
      exact h1
    · intro e he
      simp only [List.mem_singleton] at he
      subst he
      exact HS.out
    · exact (CyInv.start q2).frame hb4.size (fun c hc => hb4.block c (by omega))
    · exact (hb4.block _ (by omega)).trans q1
    · exact hbl.trans (hb4.mono hbl.size)
  case round =>
    obtain ⟨st, g, cap, U, rfl, rfl, hle, hM⟩ := hrel
    rename World => wo
    rcases snoc_cases st with rfl | ⟨st0, e, rfl⟩
    · have HM := Lib.hid hM
      obtain ⟨sr, r0, r1, ro⟩ := hM.inv.done
      obtain ⟨pr, cr, rfl⟩ := ro.form
      have q0 := cell_of_blk hM.res 0
      have q1 := cell_of_blk hM.res 1
      have qz := unfrozen_of_blk hM.res
      simp only [List.getElem?_toArray, List.getElem?_cons_zero, List.getElem?_cons_succ] at q0 q1
      have HRO := Lib.hid ro
      clear hM ro
      go_wp2_with fail
      refine bodyPost_ret (v := .agg #[.int .i64 t.same.kind, .slice pr t.same.args.length cr]) ?_ rfl ?_
      · rw [results_cell1 rfl]
        go_simp
      · have hst : ∀ F : Nat → Prop, ¬ F (w.heap.size + 1) → Stays F wo ((wo.setCell ⟨w.heap.size + 1, 0, none⟩ (.int .i64 t.same.kind)).setCell ⟨w.heap.size + 1, 1, none⟩ (.slice pr t.same.args.length cr)) := fun F hF => (setCell_stays _ _ _ _ F hF).trans (setCell_stays _ _ _ _ F hF)
        refine ⟨_, rfl, ⟨_, rfl, ((HRO.out.stays (hst _ (by omega))).bound).mono (fun b hb => ⟨by omega, hb.2⟩)⟩, (HM.out.below.setCell (p := ⟨w.heap.size + 1, 0, none⟩) (by show w.heap.size ≤ w.heap.size + 1; omega) _).setCell (p := ⟨w.heap.size + 1, 1, none⟩) (by show w.heap.size ≤ w.heap.size + 1; omega) _⟩
    · obtain ⟨⟨x, b, o⟩, s⟩ := e
      have hT := hM.ts (⟨x, b, o⟩, s) (by simp)
      simp only at hT
      obtain ⟨p1, c1, rfl⟩ := hT.form
      have hlx := hT.len
      have hlen : (st0 ++ [((⟨x, b, o⟩, Value.slice p1 x.args.length c1) : Job × Value)]).length = st0.length + 1 := by simp
      have hown := hM.own
      rw [hlen] at hown
      rw [hlen]
      obtain ⟨hcap1, hcap2, hg1, hg2⟩ := row_cap hown
      have k0 := (hown.cellAt (st0.length * 3) (by omega)).trans (tcells_last st0 _).1
      have k1 := (hown.cellAt (st0.length * 3 + 1) (by omega)).trans (tcells_last st0 _).2.1
      have k2 := (hown.cellAt (st0.length * 3 + 2) (by omega)).trans (tcells_last st0 _).2.2
      simp only at k0 k1 k2
      unfold maxLen at hcap2
      have hlx0 : (tload st0 + x.nodes) ≤ t.nodes := by rw [tload_snoc] at hle; exact hle
      have HLE := Lib.hid hlx0
      obtain ⟨wn, hwn, hsn, hbn, rn⟩ := box_new wo #[.int .i64 x.kind, .slice p1 x.args.length c1, .pointer (some ⟨b, o, none⟩)] 135
      have HC := Lib.hid (cpN_any (hM.below.trans (hbn.mono hM.below.size)) hT (by omega))
      have HM := Lib.hid hM
      have HT := Lib.hid hT
      have HOWN := Lib.hid hown
      have HWN := Lib.hid (And.intro hsn (And.intro hbn rn))
      have HWW := Lib.hid hwn
      clear hM hT hown hle hlx0 hsn hbn rn hwn
      have i0' : (0 : Int) ≤ (st0.length : Int) := Int.natCast_nonneg _
      have i1' : (st0.length : Int) < ((st0.length : Int) + 1) := by omega
      go_wp2_with fail
      rw [HWW.out]
      refine HC.out.mono ?_
      rintro e w1 ⟨y, py, cy, s', rfl, hyn, hyx, hty, hpart, hb1⟩
      obtain ⟨ps, cs, rfl⟩ := part_slice hpart
      obtain ⟨hsn, hbn, rn⟩ := HWN.out
      have hb01 : Below wo.heap.size wo w1 := hbn.trans (hb1.mono hbn.size)
      have rn1 := (hb1.block wo.heap.size (by omega)).trans rn
      have hmap : (st0 ++ [((⟨x, b, o⟩, Value.slice p1 x.args.length c1) : Job × Value)]).map (·.1) = st0.map (·.1) ++ [⟨x, b, o⟩] := by simp
      have inv1 : CyInv w1 U (st0.map (·.1) ++ [⟨x, b, o⟩]) (w.heap.size + 1 + 1) t.same := hmap ▸ (HM.out.inv.frame hb01.size (fun k hk => hb01.block k (HM.out.inv.lt k hk).2.1))
      obtain ⟨wB, hwB, hsB, hbB, rB⟩ := box_new w1 #[.int .i64 y.kind, .slice ps y.args.length cs] 32
      have inv2 : CyInv wB U (st0.map (·.1) ++ [⟨x, b, o⟩]) (w.heap.size + 1 + 1) t.same := inv1.frame hbB.size (fun k hk => hbB.block k (inv1.lt k hk).2.1)
      obtain ⟨hUb, ⟨q0, l0⟩, ⟨u0, l1⟩, hpar⟩ := inv2.loc ⟨x, b, o⟩ (by simp)
      simp only at hUb l0 l1 hpar
      obtain ⟨hRb, hbw1, cur1, hcur1⟩ := inv2.lt b hUb
      have hbo : b < wo.heap.size := (HM.out.inv.lt b hUb).2.1
      have hs01 := hb01.size
      have hsz1 := hb1.size
      have lz := unfrozen_of_blk hcur1
      have rn2 := (hbB.block wo.heap.size (by omega)).trans rn1
      have n2 := cell_of_blk rn2 2
      have q0 := cell_of_blk rB 0
      have q1 := cell_of_blk rB 1
      simp only [List.getElem?_toArray, List.getElem?_cons_zero, List.getElem?_cons_succ] at n2 q0 q1
      obtain ⟨wk, hwk⟩ : ∃ wk, wB.setCell ⟨b, o, none⟩ (.int .i64 y.kind) = wk := ⟨_, rfl⟩
      have hblk1 : wk.heap[b]? = some (.cells (cur1.setIfInBounds o (.int .i64 y.kind)) 32 (0, 0)) := hwk ▸ Go.Joins.block_setCell hcur1 _
      have l1' : wk.cell? ⟨b, o + 1, none⟩ = some u0 := hwk ▸ (cell_setCell_ne (by omega)).trans l1
      have lz' := unfrozen_of_blk hblk1
      obtain ⟨wm, hwm⟩ : ∃ wm, wk.setCell ⟨b, o + 1, none⟩ (.slice ps y.args.length cs) = wm := ⟨_, rfl⟩
      have hsk : wk.heap.size = wB.heap.size := by rw [← hwk]; simp [World.setCell]
      have hsm : wm.heap.size = wB.heap.size := by rw [← hwm]; simp [World.setCell, hsk]
      have hother : ∀ z, z ≠ b → wm.heap[z]? = wB.heap[z]? := fun z hz => by
        rw [← hwm, Below.heap_setCell _ _ _ _ (by show z ≠ b; exact hz), ← hwk, Below.heap_setCell _ _ _ _ (by show z ≠ b; exact hz)]
      have hblkm : wm.heap[b]? = some (.cells ((cur1.setIfInBounds o (.int .i64 y.kind)).setIfInBounds (o + 1) (.slice ps y.args.length cs)) 32 (0, 0)) := hwm ▸ Go.Joins.block_setCell hblk1 _
      have rBm := (hother w1.heap.size (by omega)).trans rB
      have q0m := cell_of_blk rBm 0
      have q1m := cell_of_blk rBm 1
      simp only [List.getElem?_toArray, List.getElem?_cons_zero, List.getElem?_cons_succ] at q0m q1m
      have hBm : Below w.heap.size w wm := by
        rw [← hwm, ← hwk]
        exact set2_below ((HM.out.below.trans (hb01.mono HM.out.below.size)).trans (hbB.mono (Nat.le_trans HM.out.below.size hs01))) (by omega)
      have hkm : wm.cell? ⟨b, o, none⟩ = some (.int .i64 y.kind) := by
        rw [← hwm]
        refine (cell_setCell_ne (by omega)).trans ?_
        rw [← hwk]
        exact World.cell?_setCell_same' _ _ _ (by rw [l0]; rfl)
      have ham : wm.cell? ⟨b, o + 1, none⟩ = some (.slice ps y.args.length cs) := by
        rw [← hwm]
        exact World.cell?_setCell_same' _ _ _ (by rw [l1']; rfl)
      have hsame : ∀ c, U c → ∀ q, ¬ (c = b ∧ (q = o ∨ q = o + 1)) → wm.cell? ⟨c, q, none⟩ = wB.cell? ⟨c, q, none⟩ := fun c hc q hq => by
        rw [← hwm]
        refine (cell_setCell_ne (fun h => hq ⟨h.1, Or.inr h.2⟩)).trans ?_
        rw [← hwk]
        exact cell_setCell_ne (fun h => hq ⟨h.1, Or.inl h.2⟩)
      have hshape : ∀ c, U c → ∀ cur : Array Value, wB.heap[c]? = some (.cells cur 32 (0, 0)) → ∃ cur' : Array Value, wm.heap[c]? = some (.cells cur' 32 (0, 0)) ∧ cur'.size = cur.size := fun c hc cur hcur => by
        by_cases hcb : c = b
        · subst hcb
          rw [hcur1] at hcur
          simp only [Option.some.injEq, Obj.cells.injEq, and_true] at hcur
          subst hcur
          exact ⟨_, hblkm, by simp⟩
        · exact ⟨cur, (hother c hcb).trans hcur, rfl⟩
      have invN : CyInv wn U (st0.map (·.1) ++ [⟨x, b, o⟩]) (w.heap.size + 1 + 1) t.same := hmap ▸ (HM.out.inv.frame hbn.size (fun k hk => hbn.block k (HM.out.inv.lt k hk).2.1))
      have hUN : ∀ z, U z → wB.heap[z]? = wn.heap[z]? := fun z hz => by
        have hz1 := (invN.lt z hz).2.1
        exact (hbB.block z (by omega)).trans (hb1.block z hz1)
      have hsameN : ∀ c, U c → ∀ q, ¬ (c = b ∧ (q = o ∨ q = o + 1)) → wm.cell? ⟨c, q, none⟩ = wn.cell? ⟨c, q, none⟩ := fun c hc q hq => (hsame c hc q hq).trans (World.cell?_of_block (a := ⟨c, q, none⟩) (hUN c hc))
      have hshapeN : ∀ c, U c → ∀ cur : Array Value, wn.heap[c]? = some (.cells cur 32 (0, 0)) → ∃ cur' : Array Value, wm.heap[c]? = some (.cells cur' 32 (0, 0)) ∧ cur'.size = cur.size := fun c hc cur hcur => hshape c hc cur ((hUN c hc).trans hcur)
      obtain ⟨U', bb, hEI, hps, hU'⟩ : ∃ (U' : Nat → Prop) (bb : Nat), CyInv wm U' (st0.map (·.1) ++ kidsOf bb y.args) (w.heap.size + 1 + 1) t.same ∧ (0 < y.args.length → ps = some ⟨bb, 0, none⟩) ∧ ∀ z, U' z → U z ∨ wn.heap.size ≤ z := by
        rcases hpart with ⟨h0, h1⟩ | ⟨b', cc, K, S, h1, h2, h3, h4⟩
        · have hnil : y.args = [] := List.eq_nil_of_length_eq_zero h0
          refine ⟨U, 0, ?_, fun h => by omega, fun z hz => Or.inl hz⟩
          have := invN.leaf (y := y) (by rw [hyn, hnil]; rfl) (by omega) hsameN hshapeN hkm (by rw [ham, h1])
          rw [hnil]
          simpa [kidsOf] using this
        · simp only [Value.slice.injEq, true_and] at h1
          obtain ⟨rfl, rfl⟩ := h1
          refine ⟨_, b', invN.node (y := y) hyn (by omega) hsameN hshapeN hkm (b' := b') h2 ((h4.below hbB).of_block (hother b' (by omega))) h3 ham, fun _ => rfl, fun z hz => ?_⟩
          · rcases hz with hz | rfl
            · exact Or.inl hz
            · exact Or.inr h2
      have hown1 : wm.ownsRow w.heap.size 135 3 (.slice (some ⟨g, 0, none⟩) st0.length cap) st0.length (tcells st0) := by
        have hgb : g ≠ b := fun e => HM.out.gU (e ▸ hUb)
        have h2 := row_take (row_of_block HOWN.out ((hother g hgb).trans ((hbB.block g (by omega)).trans (hb01.block g hg2)))) (Nat.le_succ _)
        rw [tcells_take] at h2
        exact h2
      have hresm : wm.heap[w.heap.size + 1]? = some (.cells #[.int .i64 0, .slice none 0 0] 32 (0, 0)) := by
        have hlt := (Array.getElem?_eq_some_iff.1 HM.out.res).1
        exact (hother _ (by omega)).trans ((hbB.block _ (by omega)).trans ((hb01.block _ hlt).trans HM.out.res))
      have hlps : y.args.length ≤ 9223372036854775807 := hty.len
      have HTY := Lib.hid hty
      have HEI := Lib.hid hEI
      have HPS := Lib.hid hps
      have HU' := Lib.hid hU'
      have HOW := Lib.hid hown1
      have HRES := Lib.hid hresm
      have HBM := Lib.hid hBm
      have HWM := Lib.hid hwm
      have HWK := Lib.hid hwk
      have HWB := Lib.hid hwB
      have HNY := Lib.hid (And.intro hyx (show y.nodes = 1 + nodesS y.args from y.nodes_eq))
      have HUB := Lib.hid hUb
      have HSZ := Lib.hid (And.intro hsm (And.intro hsB (And.intro hsz1 hs01)))
      rw [← hwB] at n2 q0 q1 l0 l1 lz
      rw [← hwk, ← hwB] at l1' lz'
      rw [← hwm, ← hwk, ← hwB] at q0m q1m
      clear hty hEI hps hU' hown1 hresm hBm hwm hwk hwB hyx hyn hpart hb1 hsn hbn rn hb01 rn1 hmap inv1 hsB hbB rB inv2 hRb hbw1 hcur1 hbo hs01 hsz1 rn2 hblk1 hsk hsm hother hblkm rBm hkm ham hsame hshape invN hUN hsameN hshapeN HC HWN HWW k0 k1 k2 hUb
      go_wp2_with fail
      rw [HWB.out, HWK.out, HWM.out]
      refine (argsT_any _ _ _ _ _).mono ?_
      rintro e w2 ⟨rfl, hb2⟩
      have hs2 := hb2.size
      have inv3 : CyInv w2 U' (st0.map (·.1) ++ kidsOf bb y.args) (w.heap.size + 1 + 1) t.same := HEI.out.frame hs2 (fun k hk => hb2.block k (HEI.out.lt k hk).2.1)
      have HI3 := Lib.hid inv3
      have HO3 := Lib.hid (row_below HOW.out hb2)
      have HR3 := Lib.hid ((hb2.block _ (Array.getElem?_eq_some_iff.1 HRES.out).1).trans HRES.out)
      have HB3 := Lib.hid (HBM.out.trans (hb2.mono HBM.out.size))
      clear hb2 inv3 hs2 n2 q0 q1 l0 l1 lz l1' lz' q0m q1m hpar
      go_wp2_with fail
      go_loopw [8, 47] (fun v i wr => ∃ (k : Nat) (stx : Jobs) (g' cap' : Nat), v = .slice (some ⟨g', 0, none⟩) stx.length cap' ∧ i = .int .i64 k ∧ k ≤ y.args.length ∧ wr.ownsRow w.heap.size 135 3 (.slice (some ⟨g', 0, none⟩) stx.length cap') stx.length (tcells stx) ∧
        (∀ e ∈ stx, TS w (· < w.heap.size) e.1.x.args e.2) ∧ stx.map (·.1) = st0.map (·.1) ++ (kidsOf bb y.args).take k ∧ tload stx = tload st0 + nodesS (y.args.take k) ∧ (∀ c, U' c → wr.heap[c]? = w2.heap[c]?) ∧
        wr.heap[w.heap.size + 1]? = some (.cells #[.int .i64 0, .slice none 0 0] 32 (0, 0)) ∧ Below w.heap.size w wr ∧ w2.heap.size ≤ wr.heap.size) (fun _ i _ => y.args.length - (intOf i).toNat)
      case atStart => exact ⟨0, st0, g, cap, rfl, rfl, Nat.zero_le _, HO3.out, fun e he => HM.out.ts e (List.mem_append_left _ he), by simp, by simp [nodesS], fun _ _ => rfl, HR3.out, HB3.out, Nat.le_refl _⟩
      case round =>
        obtain ⟨k, stx, g', cap', rfl, rfl, hk, hox, htx, hmx, hlx2, hux, hrx, hBx, hsx⟩ := hrel
        have HOX := Lib.hid hox
        have HTX := Lib.hid htx
        have HMX := Lib.hid hmx
        have HLX := Lib.hid hlx2
        have HUX := Lib.hid hux
        have HRX := Lib.hid hrx
        have HBB := Lib.hid hBx
        have HSX := Lib.hid hsx
        clear hox htx hmx hlx2 hux hrx hBx hsx
        by_cases hlk : k < y.args.length
        · have e1 := List.getElem?_eq_getElem hlk
          obtain ⟨b3, o3, p', c', hpy, hcs, hTk⟩ := (HTY.out.mono (C' := fun _ => True) (fun _ _ _ => trivial)).at k _ e1
          subst hpy
          obtain ⟨f1, f2⟩ := hcs wr (⟨HBB.out.size, fun z _ hl => HBB.out.block z hl⟩)
          have hb3lt : b3 < w.heap.size := by
            obtain ⟨b4, o4, p4, c4, hq4, hcs4, -⟩ := HTY.out.at k _ e1
            simp only [Option.some.injEq, Addr.mk.injEq, and_true] at hq4
            obtain ⟨rfl, rfl⟩ := hq4
            exact World.block_lt_of_cell? w _ (hcs4 w (.of_below (Below.refl _ _))).1
          have hpsk := HPS.out (by omega)
          subst hpsk
          have hbnd : stx.length ≤ 1048577 := by
            have h1 := tload_ge stx
            have h2 := HLX.out
            have h3 := nodesS_take_le y.args k
            have h4 := HLE.out
            obtain ⟨h5, h6⟩ := HNY.out
            omega
          have HO0 := Lib.hid (show (wr.drew).ownsRow w.heap.size 135 3 (.slice (some ⟨g', 0, none⟩) stx.length cap') stx.length (tcells stx) from row_below HOX.out (Below.refl wr.heap.size wr).drew)
          have hgg := (row_cap HOX.out).2.2.1
          have hsz6 : w.heap.size ≤ wr.heap.size := HBB.out.size
          have HKA := Lib.hid (fun (w' : World) (g2 cap2 : Nat) (hA : Appd wr.drew w' w.heap.size 135 3 (.slice (some ⟨g', 0, none⟩) stx.length cap') stx.length (tcells stx) [.int .i64 y.args[k].kind, .slice p' y.args[k].args.length c', .pointer (some ⟨bb, k * 2, none⟩)] g2 cap2) =>
            (⟨keepApp hA f1 (fun e => by simp [Value.ownBlock] at e; omega), keepApp hA f2 (fun e => by simp [Value.ownBlock] at e; omega)⟩ :
              w'.cell? ⟨b3, o3 + k * 2, none⟩ = some (.int .i64 y.args[k].kind) ∧ w'.cell? ⟨b3, o3 + k * 2 + 1, none⟩ = some (.slice p' y.args[k].args.length c')))
          have HTK : Hid (TS w (· < w.heap.size) y.args[k].args (.slice p' y.args[k].args.length c')) := Lib.hid (hTk.mono (fun z _ hl => hl))
          have ii0 : (0 : Int) ≤ (k : Int) := Int.natCast_nonneg _
          have ii1 : (k : Int) < (y.args.length : Int) := by omega
          clear hcs hTk e1
          go_wp2_with fail
          go_region_held3 (fun w' => w'.cell? ⟨b3, o3 + k * 2, none⟩ = some (.int .i64 y.args[k].kind) ∧ w'.cell? ⟨b3, o3 + k * 2 + 1, none⟩ = some (.slice p' y.args[k].args.length c'))
            (first
              | exact HKA.out _ _ _ hA
              | (go_keep; done)
              | exact ⟨f1, f2⟩)
            (first
              | (refine step_app1 (w0 := wr.drew) (v := .slice (some ⟨g', 0, none⟩) stx.length cap') (n := stx.length) (xs := tcells stx) rfl (.tmp 50) (.tmp 59) rfl Tryd.underlying136 hi hz0 hz1 hz2 rfl (by decide) rfl HO0.out _ rfl (by simp) rfl (fun u hu => by simp at hu; rcases hu with rfl | rfl | rfl <;> rfl) (by unfold maxLen; omega) (by omega) (by simp; omega) ?_; intro w' g2 cap2 hA))
          rename_i hH
          have HA := Lib.hid hA
          clear hH hA f1 f2
          go_wp2_with fail
          go_roundw
          case rel =>
            have keepB : ∀ (cc : Nat) (cs : Array Value), wr.heap[cc]? = some (.cells cs 32 (0, 0)) → w'.heap[cc]? = wr.heap[cc]? := fun cc cs hcc => by
              have hlt := (Array.getElem?_eq_some_iff.1 hcc).1
              exact (HA.out.kept cc hlt (fun e => row_ne HOX.out hcc (by decide) (by simpa [Value.ownBlock] using e))).1
            have hinv : CyInv wr U' _ (w.heap.size + 1 + 1) t.same := HI3.out.frame HSX.out HUX.out
            have hown' := HA.out.own
            have hszA := HA.out.size
            have hsx2 := HSX.out
            refine ⟨k + 1, stx ++ [(⟨y.args[k], bb, k * 2⟩, .slice p' y.args[k].args.length c')], g2, cap2, by rw [List.length_append]; rfl, by go_num, by omega, ?_, ?_, ?_, ?_, fun cc hcc => ?_, (keepB _ _ HRX.out).trans HRX.out, HBB.out.trans ((Below.refl _ wr).drew.trans HA.out.below), ?_⟩
            · rw [List.length_append, tcells_snoc]
              exact hown'
            · intro e he
              rcases List.mem_append.1 he with he | he
              · exact HTX.out e he
              · simp only [List.mem_singleton] at he
                subst he
                exact HTK.out
            · rw [List.map_append, HMX.out, List.take_add_one, kidsOf_get (List.getElem?_eq_getElem hlk), List.append_assoc]
              rfl
            · rw [tload_snoc, HLX.out, nodesS_take_next _ _ hlk, Nat.add_assoc]
            · obtain ⟨_, _, cur, hcur⟩ := hinv.lt cc hcc
              exact (keepB cc cur hcur).trans (HUX.out cc hcc)
            · have h1 : wr.heap.size ≤ wr.drew.heap.size := Nat.le_refl _
              omega
          case measure => simp [intOf]; omega
        · obtain rfl : k = y.args.length := by omega
          go_wp2_with fail
          go_roundg (tload stx)
          case rel =>
            have h1 := HLE.out
            have h2 := HLX.out
            rw [List.take_length] at h2
            obtain ⟨h3, h3'⟩ := HNY.out
            have h4 := HMX.out
            rw [← kidsOf_length bb y.args, List.take_length] at h4
            have hinv : CyInv wr U' (stx.map (·.1)) (w.heap.size + 1 + 1) t.same := by
              rw [h4]
              exact HI3.out.frame HSX.out HUX.out
            refine ⟨stx, g', cap', _, rfl, rfl, by omega, HOX.out, HTX.out, hinv, fun hgU => ?_, HRX.out, HBB.out⟩
            obtain ⟨_, _, cur, hcur⟩ := hinv.lt g' hgU
            exact row_ne HOX.out hcur (by decide) rfl
          case measure =>
            have h2 := HLX.out
            rw [List.take_length] at h2
            rw [tload_snoc]
            obtain ⟨h3, h3'⟩ := HNY.out
            simp only
            omega
set_option maxRecDepth 100000 in
set_option maxHeartbeats 2000000 in
theorem copyTI_any {C : Nat → Prop} {t : Ty} {v : Value} {w : World} (h : TT w C t v) (hn : nodesS t.args ≤ 1048576) :
    Calls Tryd.prog 92 #[v] w (NewT t.same w) := by
  obtain ⟨s, rfl, hS⟩ := h
  obtain ⟨p, c, rfl⟩ := hS.form
  obtain ⟨w0, hw0, hs0, hb0, r0, r1⟩ := box_new2 w #[.int .i64 t.kind, .slice p t.args.length c] #[.int .i64 0, .slice none 0 0] 32 32
  have HC := Lib.hid (growC_any (hS.keep hb0) (by have := t.nodes_eq; omega))
  have HW := Lib.hid (And.intro hs0 (And.intro hb0 r1))
  have HWW := Lib.hid hw0
  clear hS hs0 hb0 r0 r1 hw0
  go_enter Tryd.func92, Tryd.ntmps92
  go_wp2_with fail
  rw [HWW.out]
  refine HC.out.mono ?_
  rintro e w1 ⟨v1, rfl, ⟨s1, rfl, ho⟩, hb1⟩
  obtain ⟨p1, c1, rfl⟩ := ho.form
  obtain ⟨hs0, hb0, r1⟩ := HW.out
  have r1' := (hb1.block _ (by omega)).trans r1
  have q0 := cell_of_blk r1' 0
  have q1 := cell_of_blk r1' 1
  have qz := unfrozen_of_blk r1'
  simp only [List.getElem?_toArray, List.getElem?_cons_zero, List.getElem?_cons_succ] at q0 q1
  have HO := Lib.hid ho
  have HB := Lib.hid (hb0.trans (hb1.mono hb0.size))
  clear ho hb1 hs0 hb0 r1 r1'
  go_wp2_with fail
  refine bodyPost_ret (v := .agg #[.int .i64 t.same.kind, .slice p1 t.same.args.length c1]) ?_ rfl ?_
  · rw [results_cell1 rfl]
    go_simp
  · have hs0 := HW.out.1
    refine ⟨_, rfl, ⟨_, rfl, (HO.out.stays ((setCell_stays _ _ _ _ _ (by omega)).trans (setCell_stays _ _ _ _ _ (by omega)))).mono (fun z hz => ⟨by omega, by simpa [World.setCell] using hz.2⟩)⟩, set2_below HB.out (by omega)⟩
theorem copyI_any {C : Nat → Prop} {t : Ty} {v : Value} {w : World} (h : TT w C t v) (hn : nodesS t.args ≤ 1048576) : Calls Tryd.prog 92 #[v] w (NewT t w) := copyTI_any h hn
end Go.Proofs.YtingnigiijdllaaDoor
