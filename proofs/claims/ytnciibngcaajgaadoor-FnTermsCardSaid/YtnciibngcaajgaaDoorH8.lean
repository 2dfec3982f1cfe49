/-
  Several texts of the proof in one (each says below what it holds): TmSpecCopy And Cur DrawI OnceI Pick.
-/
import Derived.Test.YtnciibngcaajgaaDoorH2
import Derived.Test.YtnciibngcaajgaaDoorH5
import Derived.Test.YtnciibngcaajgaaDoorH6
import Derived.Test.YtnciibngcaajgaaDoorH7
import Derived.Test.YtnciibngcaajgaaDoorH1
import Derived.Deep.RegionHeld3
import Derived.Deep.CutRange
import Derived.WalkKit
import Derived.Laws.Bits128
import Derived.Test.YtnciibngcaajgaaDoorProg
import Derived.WalkSmall
import Derived.Laws.OwnMore
import Derived.Deep.QuietTactic
import Derived.BigQuiet
/- TmSpecCopy: The contract of the draws' l5Copy: the same term, in rows of the call's own (gencopy.py writes this text). -/
namespace Go.Proofs.YtnciibngcaajgaaDoor
open Go Go.RowKit

theorem cp_keep {wl W W' : World} {a : Nat} {v0 v1 v2 v3 v4 v5 v6 v7 : Value} (hb : Below W.heap.size W W') (h : Below wl.heap.size wl W ∧ W.cell? ⟨a, 0, none⟩ = some v0 ∧ W.cell? ⟨a, 1, none⟩ = some v1 ∧ W.cell? ⟨a, 2, none⟩ = some v2 ∧ W.cell? ⟨a, 3, none⟩ = some v3 ∧ W.cell? ⟨a, 4, none⟩ = some v4 ∧ W.cell? ⟨a, 5, none⟩ = some v5 ∧ W.cell? ⟨a, 6, none⟩ = some v6 ∧ W.cell? ⟨a, 7, none⟩ = some v7) : Below wl.heap.size wl W' ∧ W'.cell? ⟨a, 0, none⟩ = some v0 ∧ W'.cell? ⟨a, 1, none⟩ = some v1 ∧ W'.cell? ⟨a, 2, none⟩ = some v2 ∧ W'.cell? ⟨a, 3, none⟩ = some v3 ∧ W'.cell? ⟨a, 4, none⟩ = some v4 ∧ W'.cell? ⟨a, 5, none⟩ = some v5 ∧ W'.cell? ⟨a, 6, none⟩ = some v6 ∧ W'.cell? ⟨a, 7, none⟩ = some v7 := by
  obtain ⟨h, h0, h1, h2, h3, h4, h5, h6, h7⟩ := h
  exact ⟨h.trans (hb.mono h.size), keepN' hb h0, keepN' hb h1, keepN' hb h2, keepN' hb h3, keepN' hb h4, keepN' hb h5, keepN' hb h6, keepN' hb h7⟩
theorem cp_set {wl W : World} {a b i : Nat} {u v0 v1 v2 v3 v4 v5 v6 v7 : Value} (h : Below wl.heap.size wl W ∧ W.cell? ⟨a, 0, none⟩ = some v0 ∧ W.cell? ⟨a, 1, none⟩ = some v1 ∧ W.cell? ⟨a, 2, none⟩ = some v2 ∧ W.cell? ⟨a, 3, none⟩ = some v3 ∧ W.cell? ⟨a, 4, none⟩ = some v4 ∧ W.cell? ⟨a, 5, none⟩ = some v5 ∧ W.cell? ⟨a, 6, none⟩ = some v6 ∧ W.cell? ⟨a, 7, none⟩ = some v7) (hb : wl.heap.size ≤ b) (ha : a ≠ b) : Below wl.heap.size wl (W.setCell ⟨b, i, none⟩ u) ∧ (W.setCell ⟨b, i, none⟩ u).cell? ⟨a, 0, none⟩ = some v0 ∧ (W.setCell ⟨b, i, none⟩ u).cell? ⟨a, 1, none⟩ = some v1 ∧ (W.setCell ⟨b, i, none⟩ u).cell? ⟨a, 2, none⟩ = some v2 ∧ (W.setCell ⟨b, i, none⟩ u).cell? ⟨a, 3, none⟩ = some v3 ∧ (W.setCell ⟨b, i, none⟩ u).cell? ⟨a, 4, none⟩ = some v4 ∧ (W.setCell ⟨b, i, none⟩ u).cell? ⟨a, 5, none⟩ = some v5 ∧ (W.setCell ⟨b, i, none⟩ u).cell? ⟨a, 6, none⟩ = some v6 ∧ (W.setCell ⟨b, i, none⟩ u).cell? ⟨a, 7, none⟩ = some v7 := by
  obtain ⟨h, h0, h1, h2, h3, h4, h5, h6, h7⟩ := h
  have k : ∀ {j : Nat} {v : Value}, W.cell? ⟨a, j, none⟩ = some v → (W.setCell ⟨b, i, none⟩ u).cell? ⟨a, j, none⟩ = some v := fun hp => (World.cell?_of_block (heap_setCell_other W ⟨b, i, none⟩ a u ha)).trans hp
  exact ⟨h.setCell (p := ⟨b, i, none⟩) hb _, k h0, k h1, k h2, k h3, k h4, k h5, k h6, k h7⟩
/-- What it makes: the copy without its parts, in the block bx. -/
def Cpd (wl : World) (t : Tm) (s3 : Value) (W : World) : Prop := ∃ (bx : Nat) (p1 : Option Addr) (c1 : Nat) (p2 : Option Addr) (c2 : Nat), s3 = .pointer (some ⟨bx, 0, none⟩) ∧
  W.heap[bx]? = some (.cells #[.int .i64 t.kind, .string t.name, .string t.other, .int .i64 t.n, .int .i64 t.ty.kind, .slice p1 t.ty.args.length c1, .int .i64 t.res.kind, .slice p2 t.res.args.length c2, .slice none 0 0] 29 (0, 0)) ∧ wl.heap.size ≤ bx ∧
  TS W (fun z => wl.heap.size ≤ z ∧ z ≠ bx) t.ty.args (.slice p1 t.ty.args.length c1) ∧ TS W (fun z => wl.heap.size ≤ z ∧ z ≠ bx) t.res.args (.slice p2 t.res.args.length c2) ∧ Below wl.heap.size wl W
theorem cpd_A {wl w3 w4 : World} {t : Tm} {p1 p2 : Option Addr} {c1 c2 : Nat} (hb1 : Below wl.heap.size wl w3) (hs1 : TS w3 (fun z => wl.heap.size ≤ z) t.ty.args (.slice p1 t.ty.args.length c1)) (hb2 : Below w3.heap.size w3 w4) (hs2 : TS w4 (fun z => w3.heap.size ≤ z) t.res.args (.slice p2 t.res.args.length c2)) :
    Cpd wl t (.pointer (some ⟨w4.heap.size, 0, none⟩)) (w4.alloc (.cells #[.int .i64 t.kind, .string t.name, .string t.other, .int .i64 t.n, .int .i64 t.ty.kind, .slice p1 t.ty.args.length c1, .int .i64 t.res.kind, .slice p2 t.res.args.length c2, .slice none 0 0] 29)) := by
  have l1 := hb1.size
  have l2 := hb2.size
  refine ⟨_, p1, c1, p2, c2, rfl, blk_new w4 _, by omega, ?_, ?_, (hb1.trans (hb2.mono l1)).trans ((al_below w4 _).mono (by omega))⟩
  · exact (((hs1.mono (C' := fun z => wl.heap.size ≤ z ∧ z ≠ w4.heap.size) (fun z hz hl => ⟨hz, by omega⟩)).keep hb2).keep (al_below w4 _))
  · exact ((hs2.mono (C' := fun z => wl.heap.size ≤ z ∧ z ≠ w4.heap.size) (fun z hz hl => ⟨by omega, by omega⟩)).keep (al_below w4 _))
theorem cpd_set {wl w4 : World} {t : Tm} {p1 p2 : Option Addr} {c1 c2 bx : Nat} (zb : w4.heap[bx]? = some (.cells #[.int .i64 0, .string ⟨#[]⟩, .string ⟨#[]⟩, .int .i64 0, .int .i64 0, .slice none 0 0, .int .i64 0, .slice none 0 0, .slice none 0 0] 29 (0, 0))) (hl : wl.heap.size ≤ bx) (h1 : TS w4 (fun z => wl.heap.size ≤ z ∧ z ≠ bx) t.ty.args (.slice p1 t.ty.args.length c1)) (h2 : TS w4 (fun z => wl.heap.size ≤ z ∧ z ≠ bx) t.res.args (.slice p2 t.res.args.length c2)) (hb : Below wl.heap.size wl w4) :
    Cpd wl t (.pointer (some ⟨bx, 0, none⟩)) (((((((((w4.setCell ⟨bx, 0, none⟩ (.int .i64 t.kind)).setCell ⟨bx, 1, none⟩ (.string t.name)).setCell ⟨bx, 2, none⟩ (.string t.other)).setCell ⟨bx, 3, none⟩ (.int .i64 t.n)).setCell ⟨bx, 4, none⟩ (.int .i64 t.ty.kind)).setCell ⟨bx, 5, none⟩ (.slice p1 t.ty.args.length c1)).setCell ⟨bx, 6, none⟩ (.int .i64 t.res.kind)).setCell ⟨bx, 7, none⟩ (.slice p2 t.res.args.length c2)).setCell ⟨bx, 8, none⟩ (.slice none 0 0)) := by
  have hst := setN_stays [.int .i64 t.kind, .string t.name, .string t.other, .int .i64 t.n, .int .i64 t.ty.kind, .slice p1 t.ty.args.length c1, .int .i64 t.res.kind, .slice p2 t.res.args.length c2, .slice none 0 0] (fun z => wl.heap.size ≤ z ∧ z ≠ bx) w4 bx 0 (by simp)
  have hbl := setN_below [.int .i64 t.kind, .string t.name, .string t.other, .int .i64 t.n, .int .i64 t.ty.kind, .slice p1 t.ty.args.length c1, .int .i64 t.res.kind, .slice p2 t.res.args.length c2, .slice none 0 0] wl.heap.size w4 bx 0 hl
  have hbk : (setN w4 bx 0 [.int .i64 t.kind, .string t.name, .string t.other, .int .i64 t.n, .int .i64 t.ty.kind, .slice p1 t.ty.args.length c1, .int .i64 t.res.kind, .slice p2 t.res.args.length c2, .slice none 0 0]).heap[bx]? = some (.cells #[.int .i64 t.kind, .string t.name, .string t.other, .int .i64 t.n, .int .i64 t.ty.kind, .slice p1 t.ty.args.length c1, .int .i64 t.res.kind, .slice p2 t.res.args.length c2, .slice none 0 0] 29 (0, 0)) := by
    rw [setN_block _ _ _ _ _ _ zb]
    simp [setA]
  rw [setN9] at hst hbl hbk
  exact ⟨_, p1, c1, p2, c2, rfl, hbk, hl, h1.stays hst, h2.stays hst, hb.trans hbl⟩

/-- A copy: the same term, its parts in a row of the call's own. -/
def CopyRet (t : Tm) (w : World) (e : Ending) (w' : World) : Prop := ∃ tp tc rp rc p c xs, e = .returned (tmV t tp tc rp rc p c) ∧ NewTm w' w.heap.size (fun z => w.heap.size ≤ z) t tp tc rp rc p c xs ∧ Below w.heap.size w w'
/-- While the parts are copied: the copy so far, in the block bx. -/
structure CInv (wl : World) (bx : Nat) (W : World) (t : Tm) (tp : Option Addr) (tc : Nat) (rp : Option Addr) (rc : Nat) (p : Option Addr) (c : Nat) (xs : List Value) : Prop where
  below : Below wl.heap.size wl W
  box : W.heap[bx]? = some (.cells (tmC t tp tc rp rc p c) 29 (0, 0))
  new : NewTm W wl.heap.size (fun z => wl.heap.size ≤ z ∧ z ≠ bx) t tp tc rp rc p c xs
  lt : wl.heap.size ≤ bx
section
variable {w wl W W' : World} {bx : Nat} {t : Tm} {k n : Int} {a o : ByteArray} {ty res : Ty} {ts : List Tm} {tp rp p : Option Addr} {tc rc c : Nat} {xs : List Value}
theorem CInv.bxlt (h : CInv wl bx W t tp tc rp rc p c xs) : bx < W.heap.size := (Array.getElem?_eq_some_iff.1 h.box).1
theorem CInv.keep (h : CInv wl bx W t tp tc rp rc p c xs) (hb : Below W.heap.size W W') : CInv wl bx W' t tp tc rp rc p c xs :=
  ⟨h.below.trans (hb.mono h.below.size), (hb.block _ h.bxlt).trans h.box, h.new.stays (.of_below hb), h.lt⟩
theorem CInv.app {g cap : Nat} {x : Tm} {us : List Value} (h : CInv wl bx W (.mk k a o n ty res ts) tp tc rp rc p c xs)
    (hA : Appd W W' wl.heap.size 29 9 (.slice p ts.length c) ts.length xs us g cap) (hx : MS W (fun z => (wl.heap.size ≤ z ∧ z ≠ bx) ∧ (Value.slice p ts.length c).ownBlock ≠ some z) x.ds us) :
    CInv wl bx (W'.setCell ⟨bx, 8, none⟩ (.slice (some ⟨g, 0, none⟩) (ts.length + 1) cap)) (.mk k a o n ty res (ts ++ [x])) tp tc rp rc (some ⟨g, 0, none⟩) cap (xs ++ us) := by
  have hl := h.lt
  have hob : (Value.slice p ts.length c).ownBlock ≠ some bx := fun e => (h.new.row.blk _ e).2 rfl
  have hkb := hA.kept bx h.bxlt hob
  have hblk := hkb.1.trans h.box
  have hgb : wl.heap.size ≤ g ∧ g ≠ bx := ⟨(hA.own.lt g rfl).1, hkb.2⟩
  have go : ∀ {us : List Ty} {v : Value}, TS W (fun z => (wl.heap.size ≤ z ∧ z ≠ bx) ∧ (Value.slice p ts.length c).ownBlock ≠ some z) us v → TS (W'.setCell ⟨bx, 8, none⟩ (.slice (some ⟨g, 0, none⟩) (ts.length + 1) cap)) (fun z => (wl.heap.size ≤ z ∧ z ≠ bx) ∧ (Value.slice (some ⟨g, 0, none⟩) (ts.length + 1) cap).ownBlock ≠ some z) us v := fun {us v} hd => by
    refine (((hd.mono (C' := fun z => ((wl.heap.size ≤ z ∧ z ≠ bx) ∧ (Value.slice p ts.length c).ownBlock ≠ some z) ∧ z < W.heap.size) (fun _ hz hl => ⟨hz, hl⟩)).stays (w' := W') ⟨hA.size, fun z hz hl => (hA.kept z hl hz.1.2).1⟩).stays (setCell_stays _ _ _ _ _ (fun hz => hz.1.1.2 rfl))).mono (fun z hz _ => ⟨hz.1.1, fun e => ?_⟩)
    have := (hA.kept z hz.2 hz.1.2).2
    simp [Value.ownBlock] at e
    omega
  have hrow := (h.new.row.app hA hgb hx).stays (setCell_stays W' bx 8 (.slice (some ⟨g, 0, none⟩) (ts.length + 1) cap) _ (by simp))
  have e1 : (ts ++ [x]).length = ts.length + 1 := by simp
  refine ⟨(h.below.trans hA.below).setCell (p := ⟨bx, 8, none⟩) hl _, ?_, ⟨?_, ?_, ?_⟩, h.lt⟩
  · rw [Go.Joins.block_setCell hblk _]
    show _ = some (Obj.cells (tmC (.mk k a o n ty res (ts ++ [x])) tp tc rp rc (some ⟨g, 0, none⟩) cap) _ _)
    simp only [tmC, Tm.args, e1]
    rfl
  · show TS _ (fun z => _ ∧ (Value.slice _ (ts ++ [x]).length _).ownBlock ≠ _) _ _
    rw [e1]; exact go h.new.ty
  · show TS _ (fun z => _ ∧ (Value.slice _ (ts ++ [x]).length _).ownBlock ≠ _) _ _
    rw [e1]; exact go h.new.res
  · show RowM _ _ _ (.slice _ (ts ++ [x]).length _) _ _
    rw [e1]; exact hrow
theorem CInv.facts (h : CInv wl bx W (.mk k a o n ty res ts) tp tc rp rc p c xs) :
    (W.cell? ⟨bx, 0, none⟩ = some (.int .i64 k) ∧ W.cell? ⟨bx, 1, none⟩ = some (.string a) ∧ W.cell? ⟨bx, 2, none⟩ = some (.string o) ∧ W.cell? ⟨bx, 3, none⟩ = some (.int .i64 n) ∧ W.cell? ⟨bx, 4, none⟩ = some (.int .i64 ty.kind) ∧ W.cell? ⟨bx, 5, none⟩ = some (.slice tp ty.args.length tc) ∧ W.cell? ⟨bx, 6, none⟩ = some (.int .i64 res.kind) ∧ W.cell? ⟨bx, 7, none⟩ = some (.slice rp res.args.length rc) ∧ W.cell? ⟨bx, 8, none⟩ = some (.slice p ts.length c)) ∧ ∀ i, W.frozen? ⟨bx, i, none⟩ = false :=
  ⟨⟨cell_of_blk h.box 0, cell_of_blk h.box 1, cell_of_blk h.box 2, cell_of_blk h.box 3, cell_of_blk h.box 4, cell_of_blk h.box 5, cell_of_blk h.box 6, cell_of_blk h.box 7, cell_of_blk h.box 8⟩, unfrozen_of_blk h.box⟩
theorem CInv.own (h : CInv wl bx W (.mk k a o n ty res ts) tp tc rp rc p c xs) : W.ownsRow wl.heap.size 29 9 (.slice p ts.length c) ts.length xs := h.new.row.own
theorem cell8 (h : W.heap[bx]? = some (.cells (tmC (.mk k a o n ty res ts) tp tc rp rc p c) 29 (0, 0))) : W.cell? ⟨bx, 8, none⟩ = some (.slice p ts.length c) := cell_of_blk h 8
theorem CInv.fin (h : CInv wl bx W t tp tc rp rc p c xs) (hb : Below w.heap.size w wl) (hs : wl.heap.size = w.heap.size + 2) :
    CopyRet t w (.returned (tmV t tp tc rp rc p c)) (setN W (w.heap.size + 1) 0 [.int .i64 t.kind, .string t.name, .string t.other, .int .i64 t.n, .int .i64 t.ty.kind, .slice tp t.ty.args.length tc, .int .i64 t.res.kind, .slice rp t.res.args.length rc, .slice p t.args.length c]) :=
  ⟨tp, tc, rp, rc, p, c, xs, rfl, (h.new.stays (setN_stays _ (fun z => wl.heap.size ≤ z ∧ z ≠ bx) W (w.heap.size + 1) 0 (fun hc => by have := hc.1; omega))).base (by omega) (fun z hz _ => by have := hz.1; omega),
    (hb.trans (h.below.mono hb.size)).trans (setN_below _ w.heap.size W (w.heap.size + 1) 0 (by omega))⟩
end

set_option maxRecDepth 100000 in
set_option maxHeartbeats 4000000 in
theorem copyM_any {C : Nat → Prop} : ∀ (m : Nat) {t : Tm} {tp : Option Addr} {tc : Nat} {rp : Option Addr} {rc : Nat} {p : Option Addr} {c : Nat} (w : World), t.nodes ≤ m → TM' w C t tp tc rp rc p c → t.wt ≤ 1048576 →
    Calls Tryd.prog 30 #[tmV t tp tc rp rc p c] w (CopyRet t w)
  | 0, t, tp, tc, rp, rc, p, c, w, hm, hT, hn => by rw [t.nodes_eq] at hm; omega
  | m + 1, t, tp, tc, rp, rc, p, c, w, hm, hT, hn => by
    obtain ⟨i0, hi, hz0, hz1, hz2⟩ := info_parts infoTm
    have hwe := t.wt_eq
    have hlen := wtS_ge t.args
    have n1 : nodesS t.ty.args ≤ 1048576 := by omega
    have n2 : nodesS t.res.args ≤ 1048576 := by omega
    obtain ⟨wl, hwl, hsz, hbl, q0, q1⟩ := box_new2 w (tmC t tp tc rp rc p c) #[.int .i64 0, .string ⟨#[]⟩, .string ⟨#[]⟩, .int .i64 0, .int .i64 0, .slice none 0 0, .int .i64 0, .slice none 0 0, .slice none 0 0] 29 29
    have HA := Lib.hid (fun (W : World) (hW : Below wl.heap.size wl W) => copyT_any (⟨_, rfl, (hT.ty.keep hbl).keep hW⟩ : TT W C t.ty (.agg #[.int .i64 t.ty.kind, .slice tp t.ty.args.length tc])) n1)
    have HB := Lib.hid (fun (W : World) (hW : Below wl.heap.size wl W) => copyT_any (⟨_, rfl, (hT.res.keep hbl).keep hW⟩ : TT W C t.res (.agg #[.int .i64 t.res.kind, .slice rp t.res.args.length rc])) n2)
    have HX0 := Lib.hid (Bx9.of q0)
    have HQ0 := Lib.hid q0
    have HQ1 := Lib.hid q1
    have HSZ := Lib.hid hsz
    have HBL := Lib.hid hbl
    have HWL := Lib.hid hwl
    clear hwe hlen n1 n2 q0 q1 hsz hbl hwl
    go_enter Tryd.func30, Tryd.ntmps30
    go_upto_region 1 with fail
    rw [HWL.out]
    go_cut [3] from 5 to 38 (fun s3 wx => Cpd wl t s3 wx)
    case first =>
      obtain ⟨g0, g1, g2, g3, g4, g5, g6, g7, g8⟩ := HX0.out
      have HS0 : Hid (Below wl.heap.size wl wl.drew ∧ wl.drew.cell? ⟨w.heap.size, 0, none⟩ = some (.int .i64 t.kind) ∧ wl.drew.cell? ⟨w.heap.size, 1, none⟩ = some (.string t.name) ∧ wl.drew.cell? ⟨w.heap.size, 2, none⟩ = some (.string t.other) ∧ wl.drew.cell? ⟨w.heap.size, 3, none⟩ = some (.int .i64 t.n) ∧ wl.drew.cell? ⟨w.heap.size, 4, none⟩ = some (.int .i64 t.ty.kind) ∧ wl.drew.cell? ⟨w.heap.size, 5, none⟩ = some (.slice tp t.ty.args.length tc) ∧ wl.drew.cell? ⟨w.heap.size, 6, none⟩ = some (.int .i64 t.res.kind) ∧ wl.drew.cell? ⟨w.heap.size, 7, none⟩ = some (.slice rp t.res.args.length rc)) := Lib.hid ⟨(Below.refl _ wl).drew, g0, g1, g2, g3, g4, g5, g6, g7⟩
      go_region_held3 (fun w' => Below wl.heap.size wl w' ∧ w'.cell? ⟨w.heap.size, 0, none⟩ = some (.int .i64 t.kind) ∧ w'.cell? ⟨w.heap.size, 1, none⟩ = some (.string t.name) ∧ w'.cell? ⟨w.heap.size, 2, none⟩ = some (.string t.other) ∧ w'.cell? ⟨w.heap.size, 3, none⟩ = some (.int .i64 t.n) ∧ w'.cell? ⟨w.heap.size, 4, none⟩ = some (.int .i64 t.ty.kind) ∧ w'.cell? ⟨w.heap.size, 5, none⟩ = some (.slice tp t.ty.args.length tc) ∧ w'.cell? ⟨w.heap.size, 6, none⟩ = some (.int .i64 t.res.kind) ∧ w'.cell? ⟨w.heap.size, 7, none⟩ = some (.slice rp t.res.args.length rc))
        (first
          | with_reducible exact HS0.out
          | with_reducible exact HS4.out
          | with_reducible exact (cp_set (cp_set (cp_set (cp_set (cp_set (cp_set (cp_set (cp_set (cp_set HS4.out HLE.out HNE.out) HLE.out HNE.out) HLE.out HNE.out) HLE.out HNE.out) HLE.out HNE.out) HLE.out HNE.out) HLE.out HNE.out) HLE.out HNE.out) HLE.out HNE.out)
          | with_reducible exact cp_keep (al_below w4 _) HS4.out
          | with_reducible exact cp_keep hb1 (by assumption)
          | with_reducible exact cp_keep (al_below _ _) (by assumption)
          | (go_keep; done)
          | fail)
        (first
          | (go_at_call_of 54 (Value.agg #[.int .i64 t.ty.kind, .slice tp t.ty.args.length tc]); refine (HA.out _ (And.left (by assumption))).mono ?_; rintro e w3 ⟨v1, rfl, ⟨s1, rfl, hs1⟩, hb1⟩; obtain ⟨p1, c1, rfl⟩ := hs1.form)
          | (go_at_call_of 54 (Value.agg #[.int .i64 t.res.kind, .slice rp t.res.args.length rc]); refine (HB.out _ (And.left (by assumption))).mono ?_; rintro e w4 ⟨v2, rfl, ⟨s2, rfl, hs2⟩, hb2⟩; obtain ⟨p2, c2, rfl⟩ := hs2.form; have HS4 : Hid (Below wl.heap.size wl w4 ∧ w4.cell? ⟨w.heap.size, 0, none⟩ = some (.int .i64 t.kind) ∧ w4.cell? ⟨w.heap.size, 1, none⟩ = some (.string t.name) ∧ w4.cell? ⟨w.heap.size, 2, none⟩ = some (.string t.other) ∧ w4.cell? ⟨w.heap.size, 3, none⟩ = some (.int .i64 t.n) ∧ w4.cell? ⟨w.heap.size, 4, none⟩ = some (.int .i64 t.ty.kind) ∧ w4.cell? ⟨w.heap.size, 5, none⟩ = some (.slice tp t.ty.args.length tc) ∧ w4.cell? ⟨w.heap.size, 6, none⟩ = some (.int .i64 t.res.kind) ∧ w4.cell? ⟨w.heap.size, 7, none⟩ = some (.slice rp t.res.args.length rc)) := Lib.hid (cp_keep hb2 (by assumption)); (first
              | (have zb : w4.heap[wl.heap.size]? = some (.cells #[.int .i64 0, .string ⟨#[]⟩, .string ⟨#[]⟩, .int .i64 0, .int .i64 0, .slice none 0 0, .int .i64 0, .slice none 0 0, .slice none 0 0] 29 (0, 0)) := (hb2.block wl.heap.size (by have := hb1.size; simp at this ⊢; omega)).trans ((hb1.block wl.heap.size (by simp)).trans (blk_new wl.drew _)); have HZB := Lib.hid zb; have y0 : w4.cell? ⟨wl.heap.size, 0, none⟩ = some (.int .i64 0) := cell_of_blk zb 0; have y1 : w4.cell? ⟨wl.heap.size, 1, none⟩ = some (.string ⟨#[]⟩) := cell_of_blk zb 1; have y2 : w4.cell? ⟨wl.heap.size, 2, none⟩ = some (.string ⟨#[]⟩) := cell_of_blk zb 2; have y3 : w4.cell? ⟨wl.heap.size, 3, none⟩ = some (.int .i64 0) := cell_of_blk zb 3; have y4 : w4.cell? ⟨wl.heap.size, 4, none⟩ = some (.int .i64 0) := cell_of_blk zb 4; have y5 : w4.cell? ⟨wl.heap.size, 5, none⟩ = some (.slice none 0 0) := cell_of_blk zb 5; have y6 : w4.cell? ⟨wl.heap.size, 6, none⟩ = some (.int .i64 0) := cell_of_blk zb 6; have y7 : w4.cell? ⟨wl.heap.size, 7, none⟩ = some (.slice none 0 0) := cell_of_blk zb 7; have y8 : w4.cell? ⟨wl.heap.size, 8, none⟩ = some (.slice none 0 0) := cell_of_blk zb 8; have yz := unfrozen_of_blk zb; clear zb; have HLE : Hid (wl.heap.size ≤ wl.heap.size) := Lib.hid (Nat.le_refl _); have HNE : Hid (w.heap.size ≠ wl.heap.size) := Lib.hid (by have := HLE.out; have := HSZ.out; omega); have HT1 : Hid (TS w4 (fun z => wl.heap.size ≤ z ∧ z ≠ wl.heap.size) t.ty.args (.slice p1 t.ty.args.length c1)) := Lib.hid ((hs1.mono (fun z hz _ => ⟨by simp at hz; omega, by simp at hz; omega⟩)).keep hb2); have HT2 : Hid (TS w4 (fun z => wl.heap.size ≤ z ∧ z ≠ wl.heap.size) t.res.args (.slice p2 t.res.args.length c2)) := Lib.hid (hs2.mono (fun z hz _ => by have := hb1.size; simp at this; exact ⟨by omega, by omega⟩)))
              | (have zb : w4.heap[w3.heap.size]? = some (.cells #[.int .i64 0, .string ⟨#[]⟩, .string ⟨#[]⟩, .int .i64 0, .int .i64 0, .slice none 0 0, .int .i64 0, .slice none 0 0, .slice none 0 0] 29 (0, 0)) := (hb2.block w3.heap.size (by simp)).trans (blk_new w3 _); have HZB := Lib.hid zb; have y0 : w4.cell? ⟨w3.heap.size, 0, none⟩ = some (.int .i64 0) := cell_of_blk zb 0; have y1 : w4.cell? ⟨w3.heap.size, 1, none⟩ = some (.string ⟨#[]⟩) := cell_of_blk zb 1; have y2 : w4.cell? ⟨w3.heap.size, 2, none⟩ = some (.string ⟨#[]⟩) := cell_of_blk zb 2; have y3 : w4.cell? ⟨w3.heap.size, 3, none⟩ = some (.int .i64 0) := cell_of_blk zb 3; have y4 : w4.cell? ⟨w3.heap.size, 4, none⟩ = some (.int .i64 0) := cell_of_blk zb 4; have y5 : w4.cell? ⟨w3.heap.size, 5, none⟩ = some (.slice none 0 0) := cell_of_blk zb 5; have y6 : w4.cell? ⟨w3.heap.size, 6, none⟩ = some (.int .i64 0) := cell_of_blk zb 6; have y7 : w4.cell? ⟨w3.heap.size, 7, none⟩ = some (.slice none 0 0) := cell_of_blk zb 7; have y8 : w4.cell? ⟨w3.heap.size, 8, none⟩ = some (.slice none 0 0) := cell_of_blk zb 8; have yz := unfrozen_of_blk zb; clear zb; have HLE : Hid (wl.heap.size ≤ w3.heap.size) := Lib.hid hb1.size; have HNE : Hid (w.heap.size ≠ w3.heap.size) := Lib.hid (by have := HLE.out; have := HSZ.out; omega); have HT1 : Hid (TS w4 (fun z => wl.heap.size ≤ z ∧ z ≠ w3.heap.size) t.ty.args (.slice p1 t.ty.args.length c1)) := Lib.hid (((hs1.mono (C' := fun z => wl.heap.size ≤ z ∧ z ≠ w3.heap.size) (fun z hz hl => ⟨hz, by omega⟩)).keep (al_below w3 _)).keep hb2); have HT2 : Hid (TS w4 (fun z => wl.heap.size ≤ z ∧ z ≠ w3.heap.size) t.res.args (.slice p2 t.res.args.length c2)) := Lib.hid (hs2.mono (fun z hz _ => by have := hb1.size; simp at hz this; exact ⟨by omega, by omega⟩)))
              | (have HB1 : Hid (Below wl.heap.size wl w3) := Lib.hid ((Below.refl _ wl).drew.trans hb1); have HS1 : Hid (TS w3 (fun z => wl.heap.size ≤ z) t.ty.args (.slice p1 t.ty.args.length c1)) := Lib.hid hs1; have HB2 : Hid (Below w3.heap.size w3 w4) := Lib.hid hb2; have HS2 : Hid (TS w4 (fun z => w3.heap.size ≤ z) t.res.args (.slice p2 t.res.args.length c2)) := Lib.hid hs2)))
          | fail)
      all_goals
        go_wp2_with fail
        go_meet
        first
          | with_reducible exact cpd_set HZB.out HLE.out HT1.out HT2.out HS4.out.1
          | with_reducible exact cpd_A HB1.out HS1.out HB2.out HS2.out
          | fail
    case rest =>
      obtain ⟨bx, p1, c1, p2, c2, rfl, hbk, hle, hT1, hT2, hbw⟩ := hcut
      have HI0 : Hid (CInv wl bx wc (.mk t.kind t.name t.other t.n t.ty t.res []) p1 c1 p2 c2 none 0 []) := Lib.hid ⟨hbw, hbk, ⟨hT1.mono (fun z hz _ => ⟨hz, by simp [Value.ownBlock]⟩), hT2.mono (fun z hz _ => ⟨hz, by simp [Value.ownBlock]⟩), RowM.start _ _ _⟩, hle⟩
      have HT := Lib.hid (hT.stays (.of_below HBL.out))
      have HM := Lib.hid hm
      have HNE := Lib.hid t.nodes_eq
      have HNW := Lib.hid hn
      have hwa : wtS t.args ≤ 1048576 := by have := t.wt_eq; omega
      have hlen := wtS_ge t.args
      have hl0 : t.args.length ≤ 1048576 := by omega
      clear hbk hle hT1 hT2 hbw hT hm hn HA HB HWL hlen
      go_wp2_with fail
      go_loopw [4] (fun i wr => ∃ (k : Nat) (pp : Option Addr) (cc : Nat) (xs : List Value), k ≤ t.args.length ∧ i = .int .i64 k ∧ CInv wl bx wr (.mk t.kind t.name t.other t.n t.ty t.res (t.args.take k)) p1 c1 p2 c2 pp cc xs) (fun i _ => t.args.length - (intOf i).toNat)
      case atStart => exact ⟨0, none, 0, [], Nat.zero_le _, rfl, by rw [List.take_zero]; exact HI0.out⟩
      case round =>
        obtain ⟨k, pp, cc, xs, hk, rfl, hI⟩ := hrel
        have HI := Lib.hid hI
        have hx0 := (hI.below.block w.heap.size (by have := HSZ.out; omega)).trans HQ0.out
        have hx1 := (hI.below.block (w.heap.size + 1) (by have := HSZ.out; omega)).trans HQ1.out
        have x8 : wr.cell? ⟨w.heap.size, 8, none⟩ = some (.slice p t.args.length c) := cell_of_blk hx0 8
        by_cases hlk : k < t.args.length
        · obtain ⟨b, o, tp2, tc2, rp2, rc2, p3, c3, rfl, hC, hb, h9, hP⟩ := tm_part HT.out.args k hlk
          obtain ⟨g0, g1, g2, g3, g4, g5, g6, g7, g8⟩ := h9 wr (.of_below hI.below)
          have n4 := nodesM_at t.args k hlk
          have n5 := wtS_at t.args k hlk
          have hmk : t.args[k].nodes ≤ m := by have := HM.out; have := HNE.out; omega
          have hi0 : (0 : Int) ≤ (k : Int) := Int.natCast_nonneg _
          have hi1 : (k : Int) < (t.args.length : Int) := by omega
          have HC := Lib.hid (copyM_any m wr.drew hmk (hP.stays (.of_below hI.below.drew)) (by omega))
          have e1 : (t.args.take k).length = k := by rw [List.length_take]; omega
          have HE1 := Lib.hid e1
          have HL := Lib.hid hI.lt
          have y8 := hI.facts.1.2.2.2.2.2.2.2.2
          rw [e1] at y8
          have yz := hI.facts.2
          clear hC hb h9 hP n4 n5 hmk hx0 hx1 hI e1
          go_wp2_with fail
          go_region_law (first
            | (refine step_app1 (w0 := w1) (v := .slice pp k cc) (n := k) (xs := xs) rfl (.tmp 28) (.tmp 35) rfl Tryd.underlying27 hi hz0 hz1 hz2 rfl (by decide) rfl HOW.out _ rfl (by simp) rfl (fun u hu => by simp at hu; rcases hu with rfl | rfl | rfl | rfl | rfl | rfl | rfl | rfl | rfl <;> rfl) (by unfold maxLen; omega) (by omega) HSW.out ?_; intro w' g2' cap2 hA; have d6b := (hA.kept bx HI1.out.bxlt (fun e => by have hE := HE1.out; rw [← hE] at e; exact (HI1.out.new.row.blk _ e).2 rfl)).1.trans HI1.out.box; have d6 : w'.cell? ⟨bx, 8, none⟩ = some (.slice pp k cc) := by have := cell8 d6b; have hE := HE1.out; rw [hE] at this; exact this
               have d6z := unfrozen_of_blk d6b)
            | (go_simp; go_at_call 30; refine HC.out.mono ?_; rintro e w1 ⟨tp3, tc3, rp3, rc3, p4, c4, xs3, rfl, hN, hb1⟩; have hI1 := (HI.out.keep ((Below.refl _ wr).drew)).keep hb1; have HI1 := Lib.hid hI1; have HN := Lib.hid hN; have HB1 := Lib.hid hb1; have HOW : Hid (w1.ownsRow wl.heap.size 29 9 (.slice pp k cc) k xs) := Lib.hid (by have hE := HE1.out; have := hI1.own; rw [hE] at this; exact this)
               have HSW : Hid (wl.heap.size ≤ w1.heap.size) := Lib.hid hI1.below.size
               have d4 : w1.cell? ⟨bx, 8, none⟩ = some (.slice pp k cc) := by have := hI1.facts.1.2.2.2.2.2.2.2.2; have hE := HE1.out; rw [hE] at this; exact this
               have d4z := hI1.facts.2
               have d5 := fun (o : Obj) => al_cell d4 o
               clear hI1 hN hb1))
          all_goals
            have HAA := Lib.hid hA
            clear hA d4 d4z d5 d6b d6 d6z g0 g1 g2 g3 g4 g5 g6 g7 g8 x8 y8 yz
            go_wp2_with fail
            go_roundw
            case rel =>
              refine ⟨k + 1, some ⟨g2', 0, none⟩, cap2, xs ++ [.int .i64 t.args[k].kind, .string t.args[k].name, .string t.args[k].other, .int .i64 t.args[k].n, .int .i64 t.args[k].ty.kind, .slice tp3 t.args[k].ty.args.length tc3, .int .i64 t.args[k].res.kind, .slice rp3 t.args[k].res.args.length rc3, .slice p4 t.args[k].args.length c4], by omega, by go_num, ?_⟩
              have hE := HE1.out
              have hA2 := HAA.out
              have := HI1.out.app (x := t.args[k]) (us := [.int .i64 t.args[k].kind, .string t.args[k].name, .string t.args[k].other, .int .i64 t.args[k].n, .int .i64 t.args[k].ty.kind, .slice tp3 t.args[k].ty.args.length tc3, .int .i64 t.args[k].res.kind, .slice rp3 t.args[k].res.args.length rc3, .slice p4 t.args[k].args.length c4]) (g := g2') (cap := cap2) (by rw [hE]; exact hA2) (HN.out.tm.mono (fun z hz _ => ?_)).ms
              · rw [hE] at this
                rw [tm_take_next hlk]
                exact this
              · have l1 := HI.out.below.size
                have l2 := HI.out.bxlt
                have hz' : wr.heap.size ≤ z := hz
                refine ⟨⟨by omega, by omega⟩, fun e => ?_⟩
                have := (HI.out.new.row.own.lt _ e).2
                omega
            case measure => simp [intOf]; omega
        · obtain rfl : k = t.args.length := by omega
          rw [List.take_length] at hI HI
          obtain ⟨⟨d0, d1, d2, d3, d4, d5, d6, d7, d8⟩, dz⟩ := hI.facts
          have r0 := cell_of_blk hx1 0
          have r1 := cell_of_blk hx1 1
          have r2 := cell_of_blk hx1 2
          have r3 := cell_of_blk hx1 3
          have r4 := cell_of_blk hx1 4
          have r5 := cell_of_blk hx1 5
          have r6 := cell_of_blk hx1 6
          have r7 := cell_of_blk hx1 7
          have r8 := cell_of_blk hx1 8
          have rz := unfrozen_of_blk hx1
          simp only [List.getElem?_toArray, List.getElem?_cons_zero, List.getElem?_cons_succ] at r0 r1 r2 r3 r4 r5 r6 r7 r8
          clear hx0 hx1 hI
          go_wp2_with fail
          refine bodyPost_ret (v := tmV t p1 c1 p2 c2 pp cc) ?_ rfl ?_
          · rw [results_cell1 rfl]
            go_simp
            all_goals (repeat' apply And.intro) <;> rfl
          · have h1 := HI.out
            rw [← t.eta] at h1
            have := h1.fin HBL.out HSZ.out
            rw [setN9] at this
            exact this
end Go.Proofs.YtnciibngcaajgaaDoor
/- And: A mask of the low bits, of no program: at every integer the rest by a power of two. -/
namespace Go.Proofs.YtnciibngcaajgaaDoor
open Go
theorem and255 (n : Int) : bits .and .i64 n 255 = n % 256 := by
  have h127 : (BitVec.ofInt 64 255).toNat = 2 ^ 8 - 1 := by decide
  have key : (BitVec.ofInt 64 n &&& BitVec.ofInt 64 255).toNat = (n % ((2 ^ 64 : Nat) : Int)).toNat % 2 ^ 8 := by
    rw [BitVec.toNat_and, BitVec.toNat_ofInt, h127, Nat.and_two_pow_sub_one_eq_mod]
  show IntKind.i64.wrap ((BitVec.ofInt 64 n &&& BitVec.ofInt 64 255).toNat : Nat) = n % 256
  rw [key, IntKind.wrap_i64]
  omega
theorem and30 (n : Int) : bits .and .i64 n 1073741823 = n % 1073741824 := by
  have h127 : (BitVec.ofInt 64 1073741823).toNat = 2 ^ 30 - 1 := by decide
  have key : (BitVec.ofInt 64 n &&& BitVec.ofInt 64 1073741823).toNat = (n % ((2 ^ 64 : Nat) : Int)).toNat % 2 ^ 30 := by
    rw [BitVec.toNat_and, BitVec.toNat_ofInt, h127, Nat.and_two_pow_sub_one_eq_mod]
  show IntKind.i64.wrap ((BitVec.ofInt 64 n &&& BitVec.ofInt 64 1073741823).toNat : Nat) = n % 1073741824
  rw [key, IntKind.wrap_i64]
  omega
end Go.Proofs.YtnciibngcaajgaaDoor
/- Cur: The contracts of the draws' cursor: one byte is drawn; the cursor's own block alone is written. -/
namespace Go.Proofs.YtnciibngcaajgaaDoor
open Go Go.RowKit

/-- v is a slice of bytes that can be read, their block below block b. -/
def Code (w : World) (b : Nat) (v : Value) (len : Nat) : Prop :=
  ((∃ a cap, v = .slice a 0 cap) ∧ len = 0) ∨
  ∃ cb co cap, v = .slice (some ⟨cb, co, none⟩) len cap ∧ cb < b ∧ len ≤ 9223372036854775807 ∧ ∀ j, j < len → ∃ n : Int, 0 ≤ n ∧ n ≤ 255 ∧ w.cell? ⟨cb, co + j, none⟩ = some (.int .u8 n)
/-- Block b is a cursor. -/
def Cur (w : World) (b : Nat) : Prop := ∃ (v : Value) (len i : Nat) (h : Int), w.heap[b]? = some (.cells #[v, .int .i64 i, .int .i64 h] 70 (0, 0)) ∧ Code w b v len ∧ i ≤ len
def ByteRet (b : Nat) (w : World) (e : Ending) (w' : World) : Prop := ∃ x : Int, e = .returned (.int .i64 x) ∧ 0 ≤ x ∧ x ≤ 255 ∧ Cur w' b ∧ w.grownBy w' (some b)

theorem cur_set2 {w : World} {b : Nat} {v i h x : Value} (hc : w.heap[b]? = some (.cells #[v, i, h] 70 (0, 0))) :
    (w.setCell ⟨b, 2, none⟩ x).heap[b]? = some (.cells #[v, i, x] 70 (0, 0)) ∧ w.grownBy (w.setCell ⟨b, 2, none⟩ x) (some b) :=
  ⟨heap_setCell_same w b 2 _ _ x hc, ⟨rfl, rfl, rfl, by simp, fun k _ hk => heap_setCell_other w ⟨b, 2, none⟩ k x (fun e => hk (by simp [e]))⟩⟩
theorem cur_set1 {w : World} {b : Nat} {v i h x : Value} (hc : w.heap[b]? = some (.cells #[v, i, h] 70 (0, 0))) :
    (w.setCell ⟨b, 1, none⟩ x).heap[b]? = some (.cells #[v, x, h] 70 (0, 0)) ∧ w.grownBy (w.setCell ⟨b, 1, none⟩ x) (some b) :=
  ⟨heap_setCell_same w b 1 _ _ x hc, ⟨rfl, rfl, rfl, by simp, fun k _ hk => heap_setCell_other w ⟨b, 1, none⟩ k x (fun e => hk (by simp [e]))⟩⟩
theorem grownBy_trans {a b c : World} {row : Option Nat} (h : a.grownBy b row) (k : b.grownBy c row) : a.grownBy c row :=
  ⟨k.os.trans h.os, k.tape.trans h.tape, k.output.trans h.output, Nat.le_trans h.size k.size, fun j hj hr => (k.block j (Nat.lt_of_lt_of_le hj h.size) hr).trans (h.block j hj hr)⟩
theorem grownBy_drewN {a b : World} {row : Option Nat} (h : a.grownBy b row) (n : Nat) : a.grownBy (b.drewN n) row := ⟨h.os, h.tape, h.output, h.size, h.block⟩
theorem Code.grown {w w' : World} {b : Nat} {v : Value} {len : Nat} (h : Code w b v len) (hg : w.grownBy w' (some b)) : Code w' b v len := by
  rcases h with h | ⟨cb, co, cap, rfl, hb, hl, hc⟩
  · exact Or.inl h
  · refine Or.inr ⟨cb, co, cap, rfl, hb, hl, fun j hj => ?_⟩
    obtain ⟨n, h0, h1, h2⟩ := hc j hj
    exact ⟨n, h0, h1, hg.cell h2 (fun e => Nat.ne_of_lt hb (Option.some.inj e))⟩
/-- The three cells of a cursor. -/
theorem cur_cells {w : World} {b : Nat} {v i h : Value} (hc : w.heap[b]? = some (.cells #[v, i, h] 70 (0, 0))) :
    w.cell? ⟨b, 0, none⟩ = some v ∧ w.cell? ⟨b, 1, none⟩ = some i ∧ w.cell? ⟨b, 2, none⟩ = some h ∧ w.frozen? ⟨b, 1, none⟩ = false ∧ w.frozen? ⟨b, 2, none⟩ = false :=
  ⟨by rw [cell_of_row w b 0 _ _ _ hc]; rfl, by rw [cell_of_row w b 1 _ _ _ hc]; rfl, by rw [cell_of_row w b 2 _ _ _ hc]; rfl, frozen_of_row w b 1 _ _ hc, frozen_of_row w b 2 _ _ hc⟩
theorem byte_ret {w w1 : World} {b : Nat} {v : Value} {len i : Nat} {h x : Int} {n : Nat} (hcode : Code w b v len) (hg : w.grownBy w1 (some b)) (hw : w1.heap[b]? = some (.cells #[v, .int .i64 i, .int .i64 h] 70 (0, 0))) (hi : i ≤ len)
    (h0 : 0 ≤ x) (h1 : x ≤ 255) : ByteRet b w (.returned (.int .i64 x)) (w1.drewN n) :=
  ⟨x, rfl, h0, h1, ⟨v, len, i, h, hw, hcode.grown (grownBy_drewN hg n), hi⟩, grownBy_drewN hg n⟩

theorem byte_ret1 {w w1 : World} {b : Nat} {v : Value} {len i : Nat} {h x : Int} (hcode : Code w b v len) (hg : w.grownBy w1 (some b)) (hw : w1.heap[b]? = some (.cells #[v, .int .i64 i, .int .i64 h] 70 (0, 0))) (hi : i < len)
    (h0 : 0 ≤ x) (h1 : x ≤ 255) : ByteRet b w (.returned (.int .i64 x)) (w1.setCell ⟨b, 1, none⟩ (.int .i64 ((i : Int) + 1))) := by
  have hs := cur_set1 (x := .int .i64 ((i + 1 : Nat) : Int)) hw
  rw [show ((i : Int) + 1) = ((i + 1 : Nat) : Int) by omega]
  have hg2 := grownBy_trans hg hs.2
  exact ⟨x, rfl, h0, h1, ⟨v, len, i + 1, h, hs.1, hcode.grown hg2, hi⟩, hg2⟩

set_option maxRecDepth 100000 in
set_option maxHeartbeats 1000000 in
theorem byte_nil (a : Option Addr) (cap b i : Nat) (h : Int) (w : World) (hi : i ≤ 0) (hc : w.heap[b]? = some (.cells #[.slice a 0 cap, .int .i64 i, .int .i64 h] 70 (0, 0))) :
    Calls Tryd.prog 52 #[.pointer (some ⟨b, 0, none⟩)] w (ByteRet b w) := by
  obtain ⟨c0, c1, c2, z1, z2⟩ := cur_cells hc
  have ha := and255
  have HC := Lib.hid hc
  clear hc
  go_enter Tryd.func52, Tryd.ntmps52
  go_wp2_with fail
  generalize wrap64 (h * 6364136223846793005) = h0
  generalize wrap64 (h0 + 1442695040888963407) = h1
  obtain ⟨hw, hg⟩ := cur_set2 (x := .int .i64 h1) HC.out
  clear c0 c1 c2 z1 z2
  generalize w.setCell ⟨b, 2, none⟩ (.int .i64 h1) = w1 at *
  obtain ⟨c0, c1, c2, z1, z2⟩ := cur_cells hw
  have HW := Lib.hid hw
  have HG := Lib.hid hg
  clear hw hg
  go_quiet (fail)
  go_wp2_with fail
  go_quiet (fail)
  go_wp2_with fail
  go_ret
  exact byte_ret (n := _) (Or.inl ⟨⟨a, cap, rfl⟩, rfl⟩) (grownBy_drewN HG.out _) HW.out hi (by omega) (by omega)

set_option maxRecDepth 100000 in
set_option maxHeartbeats 1000000 in
theorem byte_end (b i cb co len cap : Nat) (h : Int) (w : World) (hi : i ≤ len) (hlast : ¬ i < len) (hcode : Code w b (.slice (some ⟨cb, co, none⟩) len cap) len) (hc : w.heap[b]? = some (.cells #[.slice (some ⟨cb, co, none⟩) len cap, .int .i64 i, .int .i64 h] 70 (0, 0))) :
    Calls Tryd.prog 52 #[.pointer (some ⟨b, 0, none⟩)] w (ByteRet b w) := by
  obtain ⟨c0, c1, c2, z1, z2⟩ := cur_cells hc
  have ha := and255
  have HC := Lib.hid hc
  have HK := Lib.hid hcode
  clear hcode
  clear hc
  go_enter Tryd.func52, Tryd.ntmps52
  go_wp2_with fail
  generalize wrap64 (h * 6364136223846793005) = h0
  generalize wrap64 (h0 + 1442695040888963407) = h1
  obtain ⟨hw, hg⟩ := cur_set2 (x := .int .i64 h1) HC.out
  clear c0 c1 c2 z1 z2
  generalize w.setCell ⟨b, 2, none⟩ (.int .i64 h1) = w1 at *
  obtain ⟨c0, c1, c2, z1, z2⟩ := cur_cells hw
  have HW := Lib.hid hw
  have HG := Lib.hid hg
  clear hw hg
  go_quiet (fail)
  go_wp2_with fail
  go_quiet (fail)
  go_wp2_with fail
  go_ret
  exact byte_ret (n := _) HK.out (grownBy_drewN HG.out _) HW.out hi (by omega) (by omega)

set_option maxRecDepth 100000 in
set_option maxHeartbeats 1000000 in
theorem byte_more (b i cb co len cap : Nat) (h : Int) (w : World) (hlt : i < len) (hlen : len ≤ 9223372036854775807) (hcb : cb ≠ b) (n : Int) (hn0 : 0 ≤ n) (hn1 : n ≤ 255) (hcell : w.cell? ⟨cb, co + i, none⟩ = some (.int .u8 n))
    (hcode : Code w b (.slice (some ⟨cb, co, none⟩) len cap) len) (hc : w.heap[b]? = some (.cells #[.slice (some ⟨cb, co, none⟩) len cap, .int .i64 i, .int .i64 h] 70 (0, 0))) :
    Calls Tryd.prog 52 #[.pointer (some ⟨b, 0, none⟩)] w (ByteRet b w) := by
  have i0 : (0 : Int) ≤ (i : Int) := Int.natCast_nonneg _
  have i1 : (i : Int) < (len : Int) := by omega
  obtain ⟨c0, c1, c2, z1, z2⟩ := cur_cells hc
  have ha := and255
  have HC := Lib.hid hc
  have HK := Lib.hid hcode
  have HL := Lib.hid hcell
  clear hcode hcell
  clear hc
  go_enter Tryd.func52, Tryd.ntmps52
  go_wp2_with fail
  generalize wrap64 (h * 6364136223846793005) = h0
  generalize wrap64 (h0 + 1442695040888963407) = h1
  obtain ⟨hw, hg⟩ := cur_set2 (x := .int .i64 h1) HC.out
  clear c0 c1 c2 z1 z2
  generalize w.setCell ⟨b, 2, none⟩ (.int .i64 h1) = w1 at *
  obtain ⟨c0, c1, c2, z1, z2⟩ := cur_cells hw
  have cc : w1.cell? ⟨cb, co + i, none⟩ = some (.int .u8 n) := hg.cell HL.out (fun e => hcb (Option.some.inj e))
  have HW := Lib.hid hw
  have HG := Lib.hid hg
  clear hw hg
  go_quiet (fail)
  go_wp2_with fail
  go_quiet (fail)
  go_wp2_with fail
  go_quiet (fail)
  go_wp2_with fail
  go_ret
  exact byte_ret1 HK.out (grownBy_drewN HG.out _) HW.out hlt (by omega) (by omega)

/-- ONE BYTE IS DRAWN. -/
theorem byte_any (b : Nat) (w : World) (hc : Cur w b) : Calls Tryd.prog 52 #[.pointer (some ⟨b, 0, none⟩)] w (ByteRet b w) := by
  obtain ⟨v, len, i, h, hw, hcode, hi⟩ := hc
  have hcode' := hcode
  rcases hcode with ⟨⟨a, cap, rfl⟩, rfl⟩ | ⟨cb, co, cap, rfl, hb, hl, hcell⟩
  · exact byte_nil a cap b i h w hi hw
  · by_cases hlt : i < len
    · obtain ⟨n, h0, h1, h2⟩ := hcell i hlt
      exact byte_more b i cb co len cap h w hlt hl (Nat.ne_of_lt hb) n h0 h1 h2 hcode' hw
    · exact byte_end b i cb co len cap h w hi hlt hcode' hw
#print axioms byte_any
end Go.Proofs.YtnciibngcaajgaaDoor
/- DrawI: The contracts of the draws below a bound, of one pick, of the cursor's making. -/
namespace Go.Proofs.YtnciibngcaajgaaDoor
open Go Go.RowKit

def DrawRet (P : Int → Prop) (b : Nat) (w : World) (e : Ending) (w' : World) : Prop := ∃ x : Int, P x ∧ e = .returned (.int .i64 x) ∧ Cur w' b ∧ w.grownBy w' (some b)
theorem draw_ret {P : Int → Prop} {b : Nat} {w w' : World} {x : Int} (h : P x) (hc : Cur w' b) (hg : w.grownBy w' (some b)) : DrawRet P b w (.returned (.int .i64 x)) w' := ⟨x, h, rfl, hc, hg⟩

set_option maxRecDepth 100000 in
set_option maxHeartbeats 1000000 in
theorem below_small (b : Nat) (n : Int) (w : World) (h1 : 1 ≤ n) (h2 : n ≤ 256) (hc : Cur w b) :
    Calls Tryd.prog 26 #[.pointer (some ⟨b, 0, none⟩), .int .i64 n] w (DrawRet (fun x => 0 ≤ x ∧ x < n) b w) := by
  have HC := Lib.hid (byte_any b w hc)
  clear hc
  go_enter Tryd.func26, Tryd.ntmps26
  go_wp2_with fail
  refine HC.out.mono ?_
  rintro e w1 ⟨x, rfl, hx0, hx1, hc1, hg1⟩
  have HC1 := Lib.hid hc1
  have HG1 := Lib.hid hg1
  clear hc1 hg1
  go_wp2_with fail
  go_ret
  exact draw_ret ⟨Int.emod_nonneg _ (by omega), Int.emod_lt_of_pos _ (by omega)⟩ HC1.out HG1.out

set_option maxRecDepth 100000 in
set_option maxHeartbeats 1000000 in
theorem below_big (b : Nat) (n : Int) (w : World) (h1 : 256 < n) (h2 : n ≤ 9223372036854775807) (hc : Cur w b) :
    Calls Tryd.prog 26 #[.pointer (some ⟨b, 0, none⟩), .int .i64 n] w (DrawRet (fun x => 0 ≤ x ∧ x < n) b w) := by
  have HC := Lib.hid (byte_any b w hc)
  clear hc
  go_enter Tryd.func26, Tryd.ntmps26
  go_wp2_with fail
  refine HC.out.mono ?_
  rintro e w1 ⟨x, rfl, hx0, hx1, hc1, hg1⟩
  have HC1 := Lib.hid (byte_any b w1 hc1)
  have HG1 := Lib.hid hg1
  clear hc1 hg1
  go_wp2_with fail
  refine HC1.out.mono ?_
  rintro e w2 ⟨y, rfl, hy0, hy1, hc2, hg2⟩
  have HC2 := Lib.hid (byte_any b w2 hc2)
  have HG2 := Lib.hid (grownBy_trans HG1.out hg2)
  clear hc2 hg2
  go_wp2_with fail
  refine HC2.out.mono ?_
  rintro e w3 ⟨z, rfl, hz0, hz1, hc3, hg3⟩
  have HC3 := Lib.hid (byte_any b w3 hc3)
  have HG3 := Lib.hid (grownBy_trans HG2.out hg3)
  clear hc3 hg3
  go_wp2_with fail
  refine HC3.out.mono ?_
  rintro e w4 ⟨u, rfl, hu0, hu1, hc4, hg4⟩
  have HC4 := Lib.hid hc4
  have HG4 := Lib.hid (grownBy_trans HG3.out hg4)
  clear hc4 hg4
  go_wp2_with fail
  go_ret
  exact draw_ret ⟨Int.emod_nonneg _ (by omega), Int.emod_lt_of_pos _ (by omega)⟩ HC4.out HG4.out

/-- A DRAW BELOW n. -/
theorem below_any (b : Nat) (n : Int) (w : World) (h1 : 1 ≤ n) (h2 : n ≤ 9223372036854775807) (hc : Cur w b) :
    Calls Tryd.prog 26 #[.pointer (some ⟨b, 0, none⟩), .int .i64 n] w (DrawRet (fun x => 0 ≤ x ∧ x < n) b w) := by
  by_cases h : n ≤ 256
  · exact below_small b n w h1 h hc
  · exact below_big b n w (by omega) h2 hc

set_option maxRecDepth 100000 in
set_option maxHeartbeats 1000000 in
theorem pickInt_any (xs : List Int) (lb b : Nat) (w : World) (hne : lb ≠ b) (h1 : 1 ≤ xs.length) (h2 : xs.length ≤ 1048576) (hcell : ∀ j x, xs[j]? = some x → w.cell? ⟨lb, j, none⟩ = some (.int .i64 x)) (hc : Cur w b) :
    Calls Tryd.prog 49 #[.pointer (some ⟨b, 0, none⟩), .slice (some ⟨lb, 0, none⟩) xs.length xs.length] w (DrawRet (· ∈ xs) b w) := by
  have HC := Lib.hid (below_any b xs.length w (by omega) (by omega) hc)
  have HX := Lib.hid hcell
  clear hc hcell
  go_enter Tryd.func49, Tryd.ntmps49
  go_wp2_with fail
  refine HC.out.mono ?_
  rintro e w1 ⟨x, hx, rfl, hc1, hg1⟩
  obtain ⟨k, rfl⟩ := Int.eq_ofNat_of_zero_le hx.1
  have hk : k < xs.length := by omega
  have cell : w1.cell? ⟨lb, k, none⟩ = some (.int .i64 xs[k]) := hg1.cell (HX.out k _ (List.getElem?_eq_getElem hk)) (fun e => hne (Option.some.inj e))
  have HC1 := Lib.hid hc1
  have HG1 := Lib.hid hg1
  clear hc1 hg1 hx
  go_wp2_with fail
  go_ret
  exact draw_ret (List.getElem_mem hk) HC1.out HG1.out

def NewRet (w : World) (e : Ending) (w' : World) : Prop := e = .returned (.pointer (some ⟨w.heap.size, 0, none⟩)) ∧ Cur w' w.heap.size ∧ Below w.heap.size w w' ∧ w'.heap.size = w.heap.size + 1
theorem code_of (w : World) (cb co len cap : Nat) (hcb : cb < w.heap.size) (hl : len ≤ 9223372036854775807) (hcell : ∀ j, j < len → ∃ n : Int, 0 ≤ n ∧ n ≤ 255 ∧ w.cell? ⟨cb, co + j, none⟩ = some (.int .u8 n)) :
    Code w w.heap.size (.slice (some ⟨cb, co, none⟩) len cap) len := Or.inr ⟨cb, co, cap, rfl, by omega, hl, hcell⟩
theorem new_ret {w : World} {v : Value} {len : Nat} (H : Int) (hc : Code w w.heap.size v len) :
    NewRet w (.returned (.pointer (some ⟨w.heap.size, 0, none⟩))) (w.alloc (.cells #[v, .int .i64 0, .int .i64 H] 70)) := by
  have hb : Below w.heap.size w (w.alloc (.cells #[v, .int .i64 0, .int .i64 H] 70)) := (Below.refl _ _).alloc (Nat.le_refl _) _
  refine ⟨rfl, ⟨v, len, 0, H, heap_alloc_new w _, ?_, Nat.zero_le _⟩, hb, by simp⟩
  rcases hc with hc | ⟨cb, co, cap, rfl, h1, h2, h3⟩
  · exact Or.inl hc
  · refine Or.inr ⟨cb, co, cap, rfl, h1, h2, fun j hj => ?_⟩
    obtain ⟨n, h4, h5, h6⟩ := h3 j hj
    exact ⟨n, h4, h5, (hb.cell (p := ⟨cb, co + j, none⟩) (World.block_lt_of_cell? w _ h6)).trans h6⟩

set_option maxRecDepth 100000 in
set_option maxHeartbeats 1000000 in
theorem new_some (cb co len cap : Nat) (w : World) (hcb : cb < w.heap.size) (hlen : len ≤ 1048576) (hcell : ∀ j, j < len → ∃ n : Int, 0 ≤ n ∧ n ≤ 255 ∧ w.cell? ⟨cb, co + j, none⟩ = some (.int .u8 n)) :
    Calls Tryd.prog 23 #[.slice (some ⟨cb, co, none⟩) len cap] w (NewRet w) := by
  have ha := and30
  have HX := Lib.hid hcell
  clear hcell
  go_enter Tryd.func23, Tryd.ntmps23
  go_wp2_with fail
  go_loop [3, 4] (fun h i => ∃ (k : Nat) (H : Int), k ≤ len ∧ i = .int .i64 k ∧ h = .int .i64 H ∧ 0 ≤ H ∧ H ≤ 1073741824) (fun _ i => len - (intOf i).toNat)
  case atStart => exact ⟨0, _, Nat.zero_le _, rfl, rfl, by omega, by omega⟩
  case round =>
    obtain ⟨k, H, hk, rfl, rfl, hH0, hH1⟩ := hrel
    by_cases hlk : k < len
    · obtain ⟨n, hn0, hn1, hcell⟩ := HX.out k hlk
      by_cases h4 : (k : Int) < 4000
      · go_wp2_with fail
        go_round
        case rel => exact ⟨k + 1, _, by omega, by go_num, rfl, by omega, by omega⟩
        case measure => simp [intOf]; omega
      · have HK := Lib.hid (new_ret H (code_of w cb co len cap hcb (by omega) HX.out))
        clear hcell
        go_wp2_with fail
        go_ret
        exact HK.out
    · have HK := Lib.hid (new_ret H (code_of w cb co len cap hcb (by omega) HX.out))
      go_wp2_with fail
      go_ret
      exact HK.out

set_option maxRecDepth 100000 in
set_option maxHeartbeats 1000000 in
theorem new_nil (a : Option Addr) (cap : Nat) (w : World) : Calls Tryd.prog 23 #[.slice a 0 cap] w (NewRet w) := by
  have HK := Lib.hid (new_ret (w := w) 26583 (Or.inl ⟨⟨a, cap, rfl⟩, rfl⟩))
  go_enter Tryd.func23, Tryd.ntmps23
  go_wp2_with fail
  go_loop [3, 4] (fun h i => h = .int .i64 26583 ∧ i = .int .i64 0) (fun _ _ => 0)
  case atStart => exact ⟨rfl, rfl⟩
  case round =>
    obtain ⟨rfl, rfl⟩ := hrel
    go_wp2_with fail
    go_ret
    exact HK.out

/-- A draw's bytes: nil, or a slice of bytes that can be read. -/
def Bytes (w : World) (v : Value) : Prop :=
  (∃ a cap, v = .slice a 0 cap) ∨ ∃ cb co len cap, v = .slice (some ⟨cb, co, none⟩) len cap ∧ cb < w.heap.size ∧ len ≤ 9223372036854775807 ∧ ∀ j, j < len → ∃ n : Int, 0 ≤ n ∧ n ≤ 255 ∧ w.cell? ⟨cb, co + j, none⟩ = some (.int .u8 n)
def sliceLen : Value → Nat
  | .slice _ n _ => n
  | _ => 0
/-- THE CURSOR IS MADE. -/
theorem new_any (v : Value) (w : World) (hv : Bytes w v) (hlen : sliceLen v ≤ 1048576) : Calls Tryd.prog 23 #[v] w (NewRet w) := by
  rcases hv with ⟨a, cap, rfl⟩ | ⟨cb, co, len, cap, rfl, hcb, _, hcell⟩
  · exact new_nil a cap w
  · exact new_some cb co len cap w hcb hlen hcell
theorem Bytes.below {w w' : World} {v : Value} (h : Bytes w v) (hb : Below w.heap.size w w') : Bytes w' v := by
  rcases h with ⟨a, cap, rfl⟩ | ⟨cb, co, len, cap, rfl, hcb, hl, hcell⟩
  · exact Or.inl ⟨a, cap, rfl⟩
  · refine Or.inr ⟨cb, co, len, cap, rfl, Nat.lt_of_lt_of_le hcb hb.size, hl, fun j hj => ?_⟩
    obtain ⟨n, h0, h1, h2⟩ := hcell j hj
    exact ⟨n, h0, h1, (hb.cell (p := ⟨cb, co + j, none⟩) hcb).trans h2⟩
theorem Cur.lt {w : World} {b : Nat} (h : Cur w b) : b < w.heap.size := by
  obtain ⟨v, len, i, x, hw, _⟩ := h
  rcases Nat.lt_or_ge b w.heap.size with h' | h'
  · exact h'
  · rw [Array.getElem?_eq_none h'] at hw; cases hw
theorem Code.below {w w' : World} {b : Nat} {v : Value} {len : Nat} (h : Code w b v len) (hb : Below w.heap.size w w') : Code w' b v len := by
  rcases h with h | ⟨cb, co, cap, rfl, h1, h2, h3⟩
  · exact Or.inl h
  · refine Or.inr ⟨cb, co, cap, rfl, h1, h2, fun j hj => ?_⟩
    obtain ⟨n, h4, h5, h6⟩ := h3 j hj
    exact ⟨n, h4, h5, (hb.cell (p := ⟨cb, co + j, none⟩) (World.block_lt_of_cell? w _ h6)).trans h6⟩
theorem Cur.belowAt {w w' : World} {b B : Nat} (h : Cur w b) (hB : b < B) (hb : Below B w w') : Cur w' b := by
  obtain ⟨v, len, i, x, hw, hc, hi⟩ := h
  refine ⟨v, len, i, x, (hb.block b hB).trans hw, ?_, hi⟩
  rcases hc with hc | ⟨cb, co, cap, rfl, h1, h2, h3⟩
  · exact Or.inl hc
  · refine Or.inr ⟨cb, co, cap, rfl, h1, h2, fun j hj => ?_⟩
    obtain ⟨n, h4, h5, h6⟩ := h3 j hj
    exact ⟨n, h4, h5, (hb.cell (p := ⟨cb, co + j, none⟩) (Nat.lt_trans h1 hB)).trans h6⟩
theorem Cur.below {w w' : World} {b : Nat} (h : Cur w b) (hb : Below w.heap.size w w') : Cur w' b := by
  have hlt := h.lt
  obtain ⟨v, len, i, x, hw, hc, hi⟩ := h
  exact ⟨v, len, i, x, (hb.block b hlt).trans hw, hc.below hb, hi⟩
/-- What a draw leaves: the cursor, and all that lay below it. -/
def Left (b : Nat) (w w' : World) : Prop := Cur w' b ∧ Below b w w'
theorem left_of {b : Nat} {w w' : World} (hc : Cur w' b) (hg : w.grownBy w' (some b)) (hb : b < w.heap.size) : Left b w w' :=
  ⟨hc, (Below.refl b w).grown hg (Nat.le_of_lt hb) (fun k h => by cases h; exact Nat.le_refl _)⟩
theorem Left.trans {b : Nat} {w w1 w2 : World} (h : Left b w w1) (k : Left b w1 w2) : Left b w w2 := ⟨k.1, h.2.trans k.2⟩
theorem left_alloc {b : Nat} {w : World} (hc : Cur w b) (o : Obj) : Left b w (w.alloc o) :=
  ⟨hc.below ((Below.refl _ _).alloc (Nat.le_refl _) _), (Below.refl b w).alloc (Nat.le_of_lt hc.lt) _⟩

def DrawsInt (P : Int → Prop) (b : Nat) (w : World) (e : Ending) (w' : World) : Prop := ∃ x : Int, P x ∧ e = .returned (.int .i64 x) ∧ Left b w w'
theorem pickInt_lit (L : List Int) (n b : Nat) (w : World) (cs : Array Value) (hn : L.length = n) (h1 : 1 ≤ n) (h2 : n ≤ 1048576) (hcs : cs = (L.map (Value.int .i64)).toArray) (hc : Cur w b) :
    Calls Tryd.prog 49 #[.pointer (some ⟨b, 0, none⟩), .slice (some ⟨w.heap.size, 0, none⟩) n n] (w.alloc (.cells cs 3)) (DrawsInt (· ∈ L) b w) := by
  subst hn; subst hcs
  have hl := left_alloc hc (.cells (L.map (Value.int .i64)).toArray 3)
  have hlt := hc.lt
  refine (pickInt_any L w.heap.size b _ (by omega) h1 h2 (fun j x hj => ?_) hl.1).mono ?_
  · rw [World.cell?_alloc_at _ _ _ _ rfl, List.getElem?_toArray, List.getElem?_map, hj]; rfl
  · rintro e w' ⟨x, hx, rfl, hc', hg⟩
    exact ⟨x, hx, rfl, hl.trans (left_of hc' hg hl.1.lt)⟩
theorem below_left (b : Nat) (n : Int) (w : World) (h1 : 1 ≤ n) (h2 : n ≤ 9223372036854775807) (hc : Cur w b) :
    Calls Tryd.prog 26 #[.pointer (some ⟨b, 0, none⟩), .int .i64 n] w (DrawsInt (fun x => 0 ≤ x ∧ x < n) b w) := by
  refine (below_any b n w h1 h2 hc).mono ?_
  rintro e w' ⟨x, hx, rfl, hc', hg⟩
  exact ⟨x, hx, rfl, left_of hc' hg hc.lt⟩
#print axioms new_any
#print axioms pickInt_any
end Go.Proofs.YtnciibngcaajgaaDoor
/- OnceI: The contract of a draw that says yes once in n times. -/
namespace Go.Proofs.YtnciibngcaajgaaDoor
open Go Go.RowKit

def OnceRet (b : Nat) (w : World) (e : Ending) (w' : World) : Prop := ∃ x : Bool, e = .returned (.bool x) ∧ Cur w' b ∧ w.grownBy w' (some b)
set_option maxRecDepth 100000 in
set_option maxHeartbeats 1000000 in
theorem once_any (b : Nat) (n : Int) (w : World) (h1 : 1 ≤ n) (h2 : n ≤ 9223372036854775807) (hc : Cur w b) :
    Calls Tryd.prog 25 #[.pointer (some ⟨b, 0, none⟩), .int .i64 n] w (OnceRet b w) := by
  have HC := Lib.hid (below_any b n w h1 h2 hc)
  clear hc
  go_enter Tryd.func25, Tryd.ntmps25
  go_wp2_with fail
  refine HC.out.mono ?_
  rintro e w1 ⟨x, _, rfl, hc1, hg1⟩
  have HC1 := Lib.hid hc1
  have HG1 := Lib.hid hg1
  clear hc1 hg1
  go_wp2_with fail
  go_ret
  exact ⟨_, rfl, HC1.out, HG1.out⟩

def DrawsBool (b : Nat) (w : World) (e : Ending) (w' : World) : Prop := ∃ x : Bool, e = .returned (.bool x) ∧ Left b w w'
theorem once_left (b : Nat) (n : Int) (w : World) (h1 : 1 ≤ n) (h2 : n ≤ 9223372036854775807) (hc : Cur w b) :
    Calls Tryd.prog 25 #[.pointer (some ⟨b, 0, none⟩), .int .i64 n] w (DrawsBool b w) := by
  refine (once_any b n w h1 h2 hc).mono ?_
  rintro e w' ⟨x, rfl, hc', hg⟩
  exact ⟨x, rfl, left_of hc' hg hc.lt⟩
#print axioms once_any
end Go.Proofs.YtnciibngcaajgaaDoor
/- Pick: The contract of the draws' l1Pick. -/
namespace Go.Proofs.YtnciibngcaajgaaDoor
open Go Go.RowKit

def GStr (P : ByteArray → Prop) (b : Nat) (w : World) (e : Ending) (w' : World) : Prop := ∃ x : ByteArray, P x ∧ e = .returned (.string x) ∧ Cur w' b ∧ w.grownBy w' (some b)
set_option maxRecDepth 100000 in
set_option maxHeartbeats 1000000 in
theorem pickS_any (xs : List ByteArray) (n lb b : Nat) (w : World) (hn : xs.length = n) (hne : lb ≠ b) (h1 : 1 ≤ n) (h2 : n ≤ 1048576) (hcell : ∀ j x, xs[j]? = some x → w.cell? ⟨lb, j, none⟩ = some (.string x)) (hc : Cur w b) :
    Calls Tryd.prog 31 #[.pointer (some ⟨b, 0, none⟩), .slice (some ⟨lb, 0, none⟩) n n] w (GStr (· ∈ xs) b w) := by
  subst hn
  have HC := Lib.hid (below_any b xs.length w (by omega) (by omega) hc)
  have HX := Lib.hid hcell
  clear hc hcell
  go_enter Tryd.func31, Tryd.ntmps31
  go_wp2_with fail
  refine HC.out.mono ?_
  rintro e w1 ⟨x, hx, rfl, hc1, hg1⟩
  obtain ⟨k, rfl⟩ := Int.eq_ofNat_of_zero_le hx.1
  have hk : k < xs.length := by omega
  have cell : w1.cell? ⟨lb, k, none⟩ = some (.string xs[k]) := hg1.cell (HX.out k _ (List.getElem?_eq_getElem hk)) (fun e => hne (Option.some.inj e))
  have HC1 := Lib.hid hc1
  have HG1 := Lib.hid hg1
  clear hc1 hg1 hx
  go_wp2_with fail
  go_ret
  exact ⟨_, List.getElem_mem hk, rfl, HC1.out, HG1.out⟩

theorem grown_drewB {w W : World} {r : Option Nat} (h : w.grownBy W r) : w.grownBy W.drew r := ⟨h.os, h.tape, h.output, h.size, h.block⟩
theorem grownB_refl (w : World) (r : Option Nat) : w.grownBy w r := ⟨rfl, rfl, rfl, Nat.le_refl _, fun _ _ _ => rfl⟩

/-- A pick out of a literal. -/
theorem pickS_litG (L : List ByteArray) (n b : Nat) (w : World) (cs : Array Value) (hn : L.length = n) (h1 : 1 ≤ n) (h2 : n ≤ 1048576) (hcs : cs = (L.map Value.string).toArray) (hc : Cur w b) :
    Calls Tryd.prog 31 #[.pointer (some ⟨b, 0, none⟩), .slice (some ⟨w.heap.size, 0, none⟩) n n] (w.alloc (.cells cs 9)) (GStr (· ∈ L) b w) := by
  subst hn; subst hcs
  have hlt := hc.lt
  refine (pickS_any L L.length w.heap.size b _ rfl (by omega) h1 h2 (fun j x hj => ?_) (hc.below ((Below.refl _ _).alloc (Nat.le_refl _) _))).mono ?_
  · rw [World.cell?_alloc_at _ _ _ _ rfl, List.getElem?_toArray, List.getElem?_map, hj]; rfl
  · rintro e w' ⟨x, hx, rfl, hc', hg⟩
    exact ⟨x, hx, rfl, hc', grownBy_trans (World.grownBy_alloc _ _ _) hg⟩
end Go.Proofs.YtnciibngcaajgaaDoor
