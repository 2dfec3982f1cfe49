/-
  Several texts of the proof in one (each says below what it holds): RdI2 RdI4.
-/
import Derived.Test.YtjobmgbchpoheaaGreatDoorPB16
import Derived.Test.YtjobmgbchpoheaaGreatDoorPB21
import Derived.Test.YtjobmgbchpoheaaGreatDoorPB23
import Derived.Test.YtjobmgbchpoheaaGreatDoorPB17
import Derived.Test.YtjobmgbchpoheaaGreatDoorPB4
import Derived.RegionTactic
import Derived.ChangeAlike
namespace Go.Proofs.YtjobmgbchpoheaaGreatDoor
open Go Go.RowKit

abbrev Pot (k m : Nat) : Prop := k + 3 * (80 - min k 80) ≤ m
def FormRet (Rl : RdF) (R FB : Nat) (E : Nat → Nat) (base : Nat) (l : List UInt8) (k : Nat) (w : World) (e : Ending) (w' : World) : Prop :=
  w.grownBy w' (some R) ∧ ∃ t k' l' v, e = .returned v ∧ Rl k l t k' l' ∧ OMv w' t v (fun z => base ≤ z ∧ z < w'.heap.size) ∧ Rdr R FB E l' k' w'
def TermOk (F : RdF) (R FB : Nat) (E : Nat → Nat) (k0 : Nat) : Prop := ∀ (k : Nat) (l : List UInt8) (W : World), k0 ≤ k → Pot k 1000 → Small l → Rdr R FB E l k W →
  Calls Tryz.prog 24 #[.pointer (some ⟨R, 0, none⟩)] W (FormRet F R FB E W.heap.size l k W)

theorem ite_lo {α : Type} {c : Prop} [Decidable c] {a b : List α} {n : Nat} (ha : n ≤ a.length) (hb : n ≤ b.length) : n ≤ (if c then a else b).length := by
  split
  · exact ha
  · exact hb
abbrev zeroC : Array Value := #[.int .i64 0, .string E0, .string E0, .int .i64 0, .int .i64 0, .slice none 0 0, .int .i64 0, .slice none 0 0, .slice none 0 0]
abbrev eC (k : Int) (a o : ByteArray) (n : Int) (ty res : Ty) (tp : Option Addr) (tc : Nat) (rp : Option Addr) (rc : Nat) (p : Option Addr) (m c : Nat) : Array Value :=
  #[.int .i64 k, .string a, .string o, .int .i64 n, .int .i64 ty.kind, .slice tp ty.args.length tc, .int .i64 res.kind, .slice rp res.args.length rc, .slice p m c]
structure WB (F : RdF) (qs : List (List UInt8)) (R FB : Nat) (E : Nat → Nat) (l : List UInt8) (k : Nat) (B D sb : Nat) (kk : Int) (a o : ByteArray) (n : Int) (ty res : Ty) (tp : Option Addr) (tc : Nat) (rp : Option Addr) (rc : Nat) (wA w : World) (ts : List Tm) (k' : Nat) (l' : List UInt8) (p : Option Addr) (c : Nat) (W : World) : Prop where
  rel : rdArgs F (qs.take ts.length) k l ts k' l'
  box : W.heap[B]? = some (.cells (eC kk a o n ty res tp tc rp rc p ts.length c) 29 (0, 0))
  out : W.heap[B + 1]? = some (.cells zeroC 29 (0, 0))
  sg : W.heap[sb]? = w.heap[sb]?
  rd : Rdr R FB E l' k' W
  args : DO W (tmD ts) (.slice p ts.length c) (fun z => D ≤ z ∧ z < W.heap.size)
  grown : wA.grownBy W (some R)
  big : w.heap.size ≤ W.heap.size
theorem set9_stays (W : World) (b : Nat) (v0 v1 v2 v3 v4 v5 v6 v7 v8 : Value) (F : Nat → Prop) (h : ¬ F b) : Stays F W (((((((((W.setCell ⟨b, 0, none⟩ v0).setCell ⟨b, 1, none⟩ v1).setCell ⟨b, 2, none⟩ v2).setCell ⟨b, 3, none⟩ v3).setCell ⟨b, 4, none⟩ v4).setCell ⟨b, 5, none⟩ v5).setCell ⟨b, 6, none⟩ v6).setCell ⟨b, 7, none⟩ v7).setCell ⟨b, 8, none⟩ v8) :=
  ((((((((setCell_stays _ _ _ _ F h).trans (setCell_stays _ _ _ _ F h)).trans (setCell_stays _ _ _ _ F h)).trans (setCell_stays _ _ _ _ F h)).trans (setCell_stays _ _ _ _ F h)).trans (setCell_stays _ _ _ _ F h)).trans (setCell_stays _ _ _ _ F h)).trans (setCell_stays _ _ _ _ F h)).trans (setCell_stays _ _ _ _ F h)
theorem set9_below (W : World) (b D : Nat) (v0 v1 v2 v3 v4 v5 v6 v7 v8 : Value) (h : D ≤ b) : Below D W (((((((((W.setCell ⟨b, 0, none⟩ v0).setCell ⟨b, 1, none⟩ v1).setCell ⟨b, 2, none⟩ v2).setCell ⟨b, 3, none⟩ v3).setCell ⟨b, 4, none⟩ v4).setCell ⟨b, 5, none⟩ v5).setCell ⟨b, 6, none⟩ v6).setCell ⟨b, 7, none⟩ v7).setCell ⟨b, 8, none⟩ v8) :=
  (((((((((Below.refl D W).setCell (p := ⟨b, 0, none⟩) h _).setCell (p := ⟨b, 1, none⟩) h _).setCell (p := ⟨b, 2, none⟩) h _).setCell (p := ⟨b, 3, none⟩) h _).setCell (p := ⟨b, 4, none⟩) h _).setCell (p := ⟨b, 5, none⟩) h _).setCell (p := ⟨b, 6, none⟩) h _).setCell (p := ⟨b, 7, none⟩) h _).setCell (p := ⟨b, 8, none⟩) h _
theorem set9_size (W : World) (b : Nat) (v0 v1 v2 v3 v4 v5 v6 v7 v8 : Value) : (((((((((W.setCell ⟨b, 0, none⟩ v0).setCell ⟨b, 1, none⟩ v1).setCell ⟨b, 2, none⟩ v2).setCell ⟨b, 3, none⟩ v3).setCell ⟨b, 4, none⟩ v4).setCell ⟨b, 5, none⟩ v5).setCell ⟨b, 6, none⟩ v6).setCell ⟨b, 7, none⟩ v7).setCell ⟨b, 8, none⟩ v8).heap.size = W.heap.size := by simp [World.setCell]
theorem tmD_snoc (ts : List Tm) (x : Tm) : (D.rows 29 9 (ts.length + 1) (flatTm ts ++ x.ds)) = tmD (ts ++ [x]) := by
  unfold tmD
  rw [flatTm_append, List.length_append]
  simp [flatTm]
theorem rd_put {R FB : Nat} {E : Nat → Nat} {l : List UInt8} {k B D i : Nat} {W W' : World} {v : Value} (h : Rdr R FB E l k W) (hu : Rdr.Under R FB E B) (hBD : B ≤ D) (hb : Below D W W') : Rdr R FB E l k (W'.setCell ⟨B, i, none⟩ v) := by
  have h1 := h.belowAt (D := D) ⟨by have := hu.1; omega, by have := hu.2.1; omega, fun i hi => by have := hu.2.2 i hi; omega⟩ hb
  exact h1.belowAt hu ((Below.refl B W').setCell (p := ⟨B, i, none⟩) (Nat.le_refl _) _)
theorem wb_next {F : RdF} {qs : List (List UInt8)} {R FB : Nat} {E : Nat → Nat} {l : List UInt8} {k B D sb : Nat} {kk : Int} {a o : ByteArray} {n : Int} {ty res : Ty} {tp : Option Addr} {tc : Nat} {rp : Option Addr} {rc : Nat} {wA w2 : World} {ts : List Tm} {k' : Nat} {l' : List UInt8} {p : Option Addr} {c : Nat} {W W5 W6 W7 : World}
    {x : Tm} {k5 : Nat} {l5 q : List UInt8} {xs us : List Value} {g cap : Nat}
    (h : WB F qs R FB E l k B D sb kk a o n ty res tp tc rp rc wA w2 ts k' l' p c W) (hB : wA.heap.size = B) (hq : qs[ts.length]? = some q) (hg5 : W.grownBy W5 (some R)) (hF : F k' l' x k5 l5) (hu : Rdr.Under R FB E B) (hBD : B + 2 ≤ D) (hsD : sb < D) (hsB : sb ≠ B) (hsR : sb ≠ R) (hD2 : D = w2.heap.size)
    (hA : Appd W5 W6 D 29 9 (.slice p ts.length c) ts.length xs us g cap) (hx : DO W6 (.rows 29 9 (ts.length + 1) (flatTm ts ++ x.ds)) (.slice (some ⟨g, 0, none⟩) (ts.length + 1) cap) (fun z => D ≤ z ∧ z < W6.heap.size))
    (hg7 : (W6.setCell ⟨B, 8, none⟩ (.slice (some ⟨g, 0, none⟩) (ts.length + 1) cap)).grownBy W7 (some R)) (hr7 : Rdr R FB E (cut q l5) k5 W7) :
    WB F qs R FB E l k B D sb kk a o n ty res tp tc rp rc wA w2 (ts ++ [x]) k5 (cut q l5) (some ⟨g, 0, none⟩) cap W7 := by
  have hlen : (ts ++ [x]).length = ts.length + 1 := by simp
  have hRB := hu.1
  have hRne : ∀ z, z ≠ R → (some z : Option Nat) ≠ some R := fun z hz e => hz (Option.some.inj e)
  have e6 : (W6.setCell ⟨B, 8, none⟩ (.slice (some ⟨g, 0, none⟩) (ts.length + 1) cap)).heap.size = W6.heap.size := by simp [World.setCell]
  have hs5 := hg5.size
  have hs6 := hA.size
  have hs7 := hg7.size
  rw [e6] at hs7
  have go6 : ∀ b, b < D → b ≠ R → b < W.heap.size → W6.heap[b]? = W.heap[b]? := fun b hb hbR hlt => (hA.below.block b hb).trans (hg5.block b hlt (hRne b hbR))
  have go7 : ∀ b, b < D → b ≠ R → b ≠ B → b < W.heap.size → W7.heap[b]? = W.heap[b]? := fun b hb hbR hbB hlt => by
    rw [hg7.block b (by omega) (hRne b hbR), heap_setCell_other W6 ⟨B, 8, none⟩ b _ hbB]
    exact go6 b hb hbR hlt
  have hbl := (Array.getElem?_eq_some_iff.1 h.box).1
  have hol := (Array.getElem?_eq_some_iff.1 h.out).1
  refine ⟨?_, ?_, ?_, ?_, hr7, ?_, ?_, by have := h.big; omega⟩
  · rw [hlen, List.take_add_one, hq]
    exact rdArgs_snoc h.rel hF
  · rw [hlen, hg7.block B (by omega) (hRne B (by omega))]
    have := heap_setCell_same W6 B 8 _ _ (.slice (some ⟨g, 0, none⟩) (ts.length + 1) cap) ((go6 B (by omega) (by omega) hbl).trans h.box)
    exact this
  · exact (go7 (B + 1) (by omega) (by omega) (by omega) hol).trans h.out
  · by_cases hl : sb < W.heap.size
    · exact (go7 sb hsD hsR hsB hl).trans h.sg
    · exact absurd (Nat.lt_of_lt_of_le (hD2 ▸ hsD) h.big) hl
  · rw [tmD_snoc] at hx
    rw [hlen]
    refine DO.mono ((hx.stays (setCell_stays _ _ _ _ _ (by omega))).stays ⟨hg7.size, fun z hz hl => hg7.block z hl (hRne z (by omega))⟩) (fun z hz => ⟨hz.1, by omega⟩)
  · have h1 := gb_more (D := D) (grownBy_trans h.grown hg5) (by omega) hA.below
    have h2 := gb_more (D := B) h1 (by omega) ((Below.refl B W6).setCell (p := ⟨B, 8, none⟩) (Nat.le_refl _) (.slice (some ⟨g, 0, none⟩) (ts.length + 1) cap))
    exact grownBy_trans h2 hg7
theorem wb_fin {F : RdF} {qs : List (List UInt8)} {R FB : Nat} {E : Nat → Nat} {l : List UInt8} {k D sb : Nat} {kk : Int} {a o : ByteArray} {n : Int} {ty res : Ty} {tp : Option Addr} {tc : Nat} {rp : Option Addr} {rc : Nat} {w w2 : World} {ts : List Tm} {k' : Nat} {l' : List UInt8} {p : Option Addr} {c : Nat} {W : World} {base : Nat} {F1 F2 : Nat → Prop}
    (h : WB F qs R FB E l k w.heap.size D sb kk a o n ty res tp tc rp rc w w2 ts k' l' p c W) (hq : qs = (sg (.mk kk a o n ty res [])).tail) (hn : qs.length = ts.length) (hD : w.heap.size + 2 ≤ D) (hD2 : D = w2.heap.size) (hub : Rdr.Under R FB E base) (hbw : base ≤ w.heap.size)
    (h1 : OS w ty.args (.slice tp ty.args.length tc) F1) (h2 : OS w res.args (.slice rp res.args.length rc) F2) (a1 : ∀ z, F1 z → base ≤ z ∧ z < w.heap.size ∧ ¬ F2 z) (a2 : ∀ z, F2 z → base ≤ z ∧ z < w.heap.size) :
    FormRet (rdW F (.mk kk a o n ty res [])) R FB E base l k w (.returned (.agg (eC kk a o n ty res tp tc rp rc p ts.length c)))
      (((((((((W.setCell ⟨w.heap.size + 1, 0, none⟩ (.int .i64 kk)).setCell ⟨w.heap.size + 1, 1, none⟩ (.string a)).setCell ⟨w.heap.size + 1, 2, none⟩ (.string o)).setCell ⟨w.heap.size + 1, 3, none⟩ (.int .i64 n)).setCell ⟨w.heap.size + 1, 4, none⟩ (.int .i64 ty.kind)).setCell ⟨w.heap.size + 1, 5, none⟩ (.slice tp ty.args.length tc)).setCell ⟨w.heap.size + 1, 6, none⟩ (.int .i64 res.kind)).setCell ⟨w.heap.size + 1, 7, none⟩ (.slice rp res.args.length rc)).setCell ⟨w.heap.size + 1, 8, none⟩ (.slice p ts.length c)) := by
  have hbl := set9_below W (w.heap.size + 1) (w.heap.size + 1) (.int .i64 kk) (.string a) (.string o) (.int .i64 n) (.int .i64 ty.kind) (.slice tp ty.args.length tc) (.int .i64 res.kind) (.slice rp res.args.length rc) (.slice p ts.length c) (Nat.le_refl _)
  have hsz := set9_size W (w.heap.size + 1) (.int .i64 kk) (.string a) (.string o) (.int .i64 n) (.int .i64 ty.kind) (.slice tp ty.args.length tc) (.int .i64 res.kind) (.slice rp res.args.length rc) (.slice p ts.length c)
  have hst := set9_stays W (w.heap.size + 1) (.int .i64 kk) (.string a) (.string o) (.int .i64 n) (.int .i64 ty.kind) (.slice tp ty.args.length tc) (.int .i64 res.kind) (.slice rp res.args.length rc) (.slice p ts.length c)
  have hgw : w.grownBy W (some R) := h.grown
  have hRb := hub.1
  have st1 : ∀ (F0 : Nat → Prop), (∀ z, F0 z → base ≤ z ∧ z < w.heap.size) → Stays F0 w W := fun F0 hF => ⟨hgw.size, fun z hz hl => hgw.block z hl (fun e => by have := Option.some.inj e; have := hF z hz; omega)⟩
  have hzW := hgw.size
  have hz2 := h.big
  refine ⟨gb_more hgw (by omega) hbl, .mk kk a o n ty res ts, k', l', _, rfl, ⟨ts, ?_, rfl⟩, ⟨tp, tc, rp, rc, p, c, rfl, ?_⟩, h.rd.belowAt ⟨by omega, by have := hub.2.1; omega, fun i hi => by have := hub.2.2 i hi; omega⟩ hbl⟩
  · have hr := h.rel
    rw [← hn, List.take_length, hq] at hr
    exact hr
  · refine OSt9 (F1 := F1) (F2 := F2) (F3 := fun z => D ≤ z ∧ z < W.heap.size) (((h1.stays (st1 F1 (fun z hz => ⟨(a1 z hz).1, (a1 z hz).2.1⟩))).stays (hst F1 (fun e => by have := a1 _ e; omega)))) ((h2.stays (st1 F2 a2)).stays (hst F2 (fun e => by have := a2 _ e; omega))) ((h.args.stays (hst _ (by omega))))
      (fun z hz => ?_) (fun z hz => ?_) (fun z hz => ?_)
    · have := a1 z hz
      exact ⟨⟨by omega, by rw [hsz]; omega⟩, this.2.2, by omega⟩
    · have := a2 z hz
      exact ⟨⟨by omega, by rw [hsz]; omega⟩, by omega⟩
    · exact ⟨by omega, by rw [hsz]; exact hz.2⟩

set_option maxRecDepth 100000 in
set_option maxHeartbeats 600000 in
theorem args_any {F : RdF} (hF : Bd F) {R FB : Nat} {E : Nat → Nat} {k0 : Nat} (hOk : TermOk F R FB E k0) (kk : Int) (a o : ByteArray) (n : Int) (ty res : Ty) (tp : Option Addr) (tc : Nat) (rp : Option Addr) (rc : Nat) (base : Nat) (F1 F2 : Nat → Prop) (l : List UInt8) (k : Nat) (w : World)
    (hk0 : k0 ≤ k) (hP : Pot k 998) (hl : Small l) (hr : Rdr R FB E l k w) (hub : Rdr.Under R FB E base) (hbw : base ≤ w.heap.size) (hkd : 1 ≤ kk ∧ kk ≤ 13 ∧ kk ≠ 2) (ha : a.size ≤ 2097152) (ho : o.size ≤ 2097152) (n1 : nodesS ty.args ≤ 2097152) (n2 : nodesS res.args ≤ 2097152)
    (h1 : OS w ty.args (.slice tp ty.args.length tc) F1) (h2 : OS w res.args (.slice rp res.args.length rc) F2) (a1 : ∀ z, F1 z → base ≤ z ∧ z < w.heap.size ∧ ¬ F2 z) (a2 : ∀ z, F2 z → base ≤ z ∧ z < w.heap.size) :
    Calls Tryz.prog 95 #[.pointer (some ⟨R, 0, none⟩), .agg (eC kk a o n ty res tp tc rp rc none 0 0)] w (FormRet (rdW F (.mk kk a o n ty res [])) R FB E base l k w) := by
  obtain ⟨i0, hi, hz0, hz1, hz2⟩ := info_parts infoTm
  obtain ⟨w0, hw0, hs0, hb0, r0, r1⟩ := box_new2 w (eC kk a o n ty res tp tc rp rc none 0 0) zeroC 29 29
  have hsg := sg_any (t := .mk kk a o n ty res []) (C := fun z => F1 z ∨ F2 z) none 0 0 w0 ⟨hkd.1, hkd.2.1⟩ ((h1.ts.keep hb0).mono (fun z hz _ => Or.inl hz)) ((h2.ts.keep hb0).mono (fun z hz _ => Or.inr hz)) ha ho n1 n2 (fun e => absurd e hkd.2.2)
  simp only [Tm.kind, Tm.name, Tm.other, Tm.n, Tm.ty, Tm.res] at hsg
  have HSG := Lib.hid hsg
  have HOK := Lib.hid hOk
  have HR := Lib.hid hr
  have HB0 := Lib.hid hb0
  have HW0 := Lib.hid hw0
  have H1 := Lib.hid h1
  have H2 := Lib.hid h2
  have A1 := Lib.hid a1
  have A2 := Lib.hid a2
  have g0 : w0.cell? ⟨w.heap.size, 0, none⟩ = some (.int .i64 kk) := cell_of_blk r0 0
  have g1 : w0.cell? ⟨w.heap.size, 1, none⟩ = some (.string a) := cell_of_blk r0 1
  have g2 : w0.cell? ⟨w.heap.size, 2, none⟩ = some (.string o) := cell_of_blk r0 2
  have g3 : w0.cell? ⟨w.heap.size, 3, none⟩ = some (.int .i64 n) := cell_of_blk r0 3
  have g4 : w0.cell? ⟨w.heap.size, 4, none⟩ = some (.int .i64 ty.kind) := cell_of_blk r0 4
  have g5 : w0.cell? ⟨w.heap.size, 5, none⟩ = some (.slice tp ty.args.length tc) := cell_of_blk r0 5
  have g6 : w0.cell? ⟨w.heap.size, 6, none⟩ = some (.int .i64 res.kind) := cell_of_blk r0 6
  have g7 : w0.cell? ⟨w.heap.size, 7, none⟩ = some (.slice rp res.args.length rc) := cell_of_blk r0 7
  have g8 : w0.cell? ⟨w.heap.size, 8, none⟩ = some (.slice none 0 0) := cell_of_blk r0 8
  have R0 := Lib.hid r0
  have R1 := Lib.hid r1
  have HKD := Lib.hid hkd
  clear hsg hOk hr hb0 h1 h2 a1 a2 r0 r1 hkd ha ho n1 n2
  go_enter Tryz.func95, Tryz.ntmps95
  go_wp2_with fail
  refine HSG.out.mono ?_
  rintro e w2 ⟨sb, rfl, hsb, hsc, hb2⟩
  have hN1 : 1 ≤ (sg (.mk kk a o n ty res [])).length := by
    unfold sg sgN
    repeat' apply ite_lo
    all_goals simp
  have hN4 : (sg (.mk kk a o n ty res [])).tail.length ≤ 3 := sg_tail _
  obtain ⟨N, hN⟩ : ∃ N, (sg (.mk kk a o n ty res [])).length = N + 1 := ⟨(sg (.mk kk a o n ty res [])).length - 1, by omega⟩
  rw [List.length_tail] at hN4
  have hNle : N ≤ 3 := by omega
  have HN := Lib.hid hN
  have i0 : (0 : Int) ≤ (N : Int) := Int.natCast_nonneg _
  have HSC := Lib.hid hsc
  have HB2 := Lib.hid hb2
  have HSB := Lib.hid hsb
  rw [hN]
  have hw02 := hb2.size
  have hwb0 : WB F (sg (.mk kk a o n ty res [])).tail R FB E l k w.heap.size w2.heap.size sb kk a o n ty res tp tc rp rc w w2 [] k l none 0 w2 := by
    have hr2 := (HR.out.below HB0.out).below hb2
    exact ⟨⟨rfl, rfl, rfl⟩, (hb2.block _ (by omega)).trans R0.out, (hb2.block _ (by omega)).trans R1.out, rfl, hr2, .nil _ _ _, gb_below (HB0.out.trans (hb2.mono HB0.out.size)) _, Nat.le_refl _⟩
  have HWB0 := Lib.hid hwb0
  clear hN1 hN4 hN hsc hb2 hsb hwb0 g0 g1 g2 g3 g4 g5 g6 g7 g8
  have HB02 := Lib.hid (HB0.out.trans (HB2.out.mono HB0.out.size))
  have HS0 := Lib.hid hs0
  by_cases hN0 : N = 0
  · subst hN0
    go_wp2_with fail
    go_loopw [11] (fun v wr => v = .int .i64 0 ∧ wr = w2) (fun _ _ => 0)
    case atStart => exact ⟨rfl, rfl⟩
    case round =>
      obtain ⟨rfl, rfl⟩ := hrel
      obtain ⟨ts, hts, p, c, hWB⟩ : ∃ ts, ts = [] ∧ ∃ p c, WB F (sg (.mk kk a o n ty res [])).tail R FB E l k w.heap.size wr.heap.size sb kk a o n ty res tp tc rp rc w wr ts k l p c wr := ⟨[], rfl, none, 0, HWB0.out⟩
      have HTS := Lib.hid hts
      clear hts
      have r0 := cell_of_blk hWB.out 0
      have r1 := cell_of_blk hWB.out 1
      have r2 := cell_of_blk hWB.out 2
      have r3 := cell_of_blk hWB.out 3
      have r4 := cell_of_blk hWB.out 4
      have r5 := cell_of_blk hWB.out 5
      have r6 := cell_of_blk hWB.out 6
      have r7 := cell_of_blk hWB.out 7
      have r8 := cell_of_blk hWB.out 8
      have rz := unfrozen_of_blk hWB.out
      have d0 := cell_of_blk hWB.box 0
      have d1 := cell_of_blk hWB.box 1
      have d2 := cell_of_blk hWB.box 2
      have d3 := cell_of_blk hWB.box 3
      have d4 := cell_of_blk hWB.box 4
      have d5 := cell_of_blk hWB.box 5
      have d6 := cell_of_blk hWB.box 6
      have d7 := cell_of_blk hWB.box 7
      have d8 := cell_of_blk hWB.box 8
      simp only [List.getElem?_toArray, List.getElem?_cons_zero, List.getElem?_cons_succ] at r0 r1 r2 r3 r4 r5 r6 r7 r8 d0 d1 d2 d3 d4 d5 d6 d7 d8
      have HWB := Lib.hid hWB
      clear hWB
      go_wp2_with fail
      refine bodyPost_ret (v := .agg (eC kk a o n ty res tp tc rp rc p ts.length c)) ?_ rfl ?_
      · rw [results_cell1 rfl]
        go_simp
        all_goals (repeat' apply And.intro) <;> rfl
      · exact wb_fin HWB.out rfl (by have h1 := HN.out; rw [List.length_tail, h1, HTS.out]; rfl) (by have := HS0.out; have := HB2.out.size; omega) rfl hub hbw H1.out H2.out A1.out A2.out
  · go_wp2_with fail
    go_loopw [11] (fun v wr => ∃ (ts : List Tm) (k' : Nat) (l' : List UInt8) (p : Option Addr) (c : Nat), ts.length ≤ N ∧ v = .int .i64 ts.length ∧ WB F (sg (.mk kk a o n ty res [])).tail R FB E l k w.heap.size w2.heap.size sb kk a o n ty res tp tc rp rc w w2 ts k' l' p c wr) (fun v _ => N - (intOf v).toNat)
    case atStart => exact ⟨[], k, l, none, 0, Nat.zero_le _, rfl, HWB0.out⟩
    case round =>
      obtain ⟨ts, k', l', p, c, hle, rfl, hWB⟩ := hrel
      by_cases hlt : ts.length < N
      · have hlq : ts.length < (sg (.mk kk a o n ty res [])).tail.length := by have := HN.out; rw [List.length_tail]; omega
        obtain ⟨q, hq⟩ : ∃ q, (sg (.mk kk a o n ty res [])).tail[ts.length]? = some q := ⟨_, List.getElem?_eq_getElem hlq⟩
        have hsq : wr.cell? ⟨sb, 1 + ts.length, none⟩ = some (.string ⟨q.toArray⟩) := by
          rw [cell_of_blk (hWB.sg.trans HSC.out) (1 + ts.length)]
          have : (sg (.mk kk a o n ty res []))[1 + ts.length]? = some q := by rw [Nat.add_comm, ← List.getElem?_tail]; exact hq
          simp only [strC, List.getElem?_toArray, List.getElem?_map, this, Option.map_some]
        have d8 := cell_of_blk hWB.box 8
        simp only [List.getElem?_toArray, List.getElem?_cons_zero, List.getElem?_cons_succ] at d8
        have dz := unfrozen_of_blk hWB.box
        obtain ⟨b1, b2, b3, b4⟩ := rdArgs_bd hF hWB.rel
        have hbl := List.length_take_le ts.length (sg (.mk kk a o n ty res [])).tail
        have hPk : Pot k' 1000 := by unfold Pot at *; omega
        have hl' : Small l' := by unfold Small at *; omega
        have hC := HOK.out k' l' wr.drew (by omega) hPk hl' hWB.rd.drew
        have HC := Lib.hid hC
        have HQ := Lib.hid hq
        have HWB := Lib.hid hWB
        have j0 : (0 : Int) ≤ (ts.length : Int) := Int.natCast_nonneg _
        have j1 : (ts.length : Int) < (N : Int) := by omega
        have hsmall : ts.length ≤ 3 := by omega
        have hR2 : R ≠ w.heap.size := fun e => by have := hub.1; omega
        have hBlt := (Array.getElem?_eq_some_iff.1 hWB.box).1
        have HBLT := Lib.hid hBlt
        clear hq hlq hWB b1 b2 b3 b4 hbl hPk hC hBlt
        go_wp2_with fail
        go_region_law (first
          | (refine step_app1 (w0 := w5) (base := w2.heap.size) (v := .slice p ts.length c) (n := ts.length) (xs := xs) rfl (.tmp 16) (.tmp 19) rfl Tryz.underlying27 hi hz0 hz1 hz2 rfl (by decide) rfl HOW.out _ rfl (by simp) rfl (fun u hu => by simp at hu; rcases hu with rfl | rfl | rfl | rfl | rfl | rfl | rfl | rfl | rfl <;> rfl) (by unfold maxLen; omega) (by omega) HSW.out ?_; intro w' g cap hA
             have d6b := (hA.kept w.heap.size HBL5.out (fun e => by have := (HOW.out.lt _ e).1; have := HS0.out; have := HB2.out.size; omega)).1.trans HBX5.out
             have d6 : w'.cell? ⟨w.heap.size, 8, none⟩ = some (.slice p ts.length c) := cell_of_blk d6b 8
             have d6z := unfrozen_of_blk d6b)
          | (go_simp; go_at_call 24; refine HC.out.mono ?_; rintro e w5 ⟨hg5, x, k5, l5, v5, rfl, hF5, ⟨tp5, tc5, rp5, rc5, p5, c5, rfl, hO5⟩, hr5⟩
             have hgw5 : wr.grownBy w5 (some R) := ⟨hg5.os, hg5.tape, hg5.output, hg5.size, hg5.block⟩
             have hst5 : Stays (fun z => w2.heap.size ≤ z ∧ z < wr.heap.size) wr w5 := stays_grown hgw5 (fun z hz e => by have := hub.1; have := HS0.out; have := HB2.out.size; omega)
             have hz5 := hg5.size
             obtain ⟨xs, hown, hnext⟩ := (HWB.out.args.stays hst5).grow (base := w2.heap.size) hO5 x.ds_len (fun z hz => ⟨hz.1, fun h => by have h1 : wr.drew.heap.size ≤ z := h.1; have : wr.drew.heap.size = wr.heap.size := rfl; omega⟩) (fun z hz => by have h1 : wr.drew.heap.size ≤ z := hz.1; have : wr.drew.heap.size = wr.heap.size := rfl; have := HWB.out.big; exact ⟨by omega, hz.2⟩)
             have HOW := Lib.hid hown
             have HNX := Lib.hid hnext
             have HSW : Hid (w2.heap.size ≤ w5.heap.size) := Lib.hid (by have h1 : wr.drew.heap.size ≤ w5.heap.size := hz5; have : wr.drew.heap.size = wr.heap.size := rfl; have := HWB.out.big; omega)
             have hbx5 := (hg5.block w.heap.size HBLT.out (fun e => hR2 (Option.some.inj e).symm)).trans HWB.out.box
             have HBX5 := Lib.hid hbx5
             have HBL5 := Lib.hid (Array.getElem?_eq_some_iff.1 hbx5).1
             have d4 : w5.cell? ⟨w.heap.size, 8, none⟩ = some (.slice p ts.length c) := cell_of_blk hbx5 8
             have d4z := unfrozen_of_blk hbx5
             have d5 := fun (o : Obj) => al_cell d4 o
             have HG5 := Lib.hid hgw5
             have HF5 := Lib.hid hF5
             have HR5 := Lib.hid hr5
             clear hst5 hz5 hown hnext hbx5 hg5 hgw5 hF5 hr5 hO5)
          )
        all_goals
          have hnx := HNX.out _ _ _ hA
          have hBD : w.heap.size + 2 ≤ w2.heap.size := by have := HS0.out; have := HB2.out.size; omega
          have huB : Rdr.Under R FB E w.heap.size := ⟨by have := hub.1; omega, by have := hub.2.1; omega, fun i hi => by have := hub.2.2 i hi; omega⟩
          have hr6 := rd_put (i := 8) (v := .slice (some ⟨g, 0, none⟩) (ts.length + 1) cap) HR5.out huB (by omega) hA.below
          have HSK := Lib.hid (skip_any q hr6)
          have HAA := Lib.hid hA
          have HNN := Lib.hid hnx
          have HUB := Lib.hid huB
          clear hA hnx hr6 d4 d4z d5 d6b d6 d6z d8 dz hsq
          go_wp2_with fail
          refine HSK.out.mono ?_
          rintro e w7 ⟨rfl, hr7, hg7⟩
          have hsb' := HSB.out
          have hs0' := HS0.out
          have hsc' := (Array.getElem?_eq_some_iff.1 HSC.out).1
          have HNX7 := Lib.hid (wb_next HWB.out rfl HQ.out HG5.out HF5.out HUB.out hBD hsc' (by omega) (by have := HUB.out.1; omega) rfl HAA.out HNN.out hg7 hr7)
          clear hr7 hg7 hsb' hs0' hsc'
          go_wp2_with fail
          go_roundw
          case rel => exact ⟨ts ++ [x], k5, _, some ⟨g, 0, none⟩, cap, by rw [List.length_append, List.length_singleton]; omega, by rw [List.length_append, List.length_singleton]; go_num, HNX7.out⟩
          case measure => simp [intOf]; omega
      have hte : ts.length = N := by omega
      subst hte
      have r0 := cell_of_blk hWB.out 0
      have r1 := cell_of_blk hWB.out 1
      have r2 := cell_of_blk hWB.out 2
      have r3 := cell_of_blk hWB.out 3
      have r4 := cell_of_blk hWB.out 4
      have r5 := cell_of_blk hWB.out 5
      have r6 := cell_of_blk hWB.out 6
      have r7 := cell_of_blk hWB.out 7
      have r8 := cell_of_blk hWB.out 8
      have rz := unfrozen_of_blk hWB.out
      have d0 := cell_of_blk hWB.box 0
      have d1 := cell_of_blk hWB.box 1
      have d2 := cell_of_blk hWB.box 2
      have d3 := cell_of_blk hWB.box 3
      have d4 := cell_of_blk hWB.box 4
      have d5 := cell_of_blk hWB.box 5
      have d6 := cell_of_blk hWB.box 6
      have d7 := cell_of_blk hWB.box 7
      have d8 := cell_of_blk hWB.box 8
      simp only [List.getElem?_toArray, List.getElem?_cons_zero, List.getElem?_cons_succ] at r0 r1 r2 r3 r4 r5 r6 r7 r8 d0 d1 d2 d3 d4 d5 d6 d7 d8
      have HWB := Lib.hid hWB
      clear hWB
      go_wp2_with fail
      refine bodyPost_ret (v := .agg (eC kk a o n ty res tp tc rp rc p ts.length c)) ?_ rfl ?_
      · rw [results_cell1 rfl]
        go_simp
        all_goals (repeat' apply And.intro) <;> rfl
      · exact wb_fin HWB.out rfl (by have h1 := HN.out; rw [List.length_tail, h1]; omega) (by have := HS0.out; have := HB2.out.size; omega) rfl hub hbw H1.out H2.out A1.out A2.out
end Go.Proofs.YtjobmgbchpoheaaGreatDoor
namespace Go.Proofs.YtjobmgbchpoheaaGreatDoor
open Go Go.RowKit
theorem form_out {Rl : RdF} {R FB : Nat} {E : Nat → Nat} {l : List UInt8} {k : Nat} {w W : World} {t : Tm} {k' : Nat} {l' : List UInt8} {tp rp p : Option Addr} {tc rc c : Nat} (hu : Rdr.Under R FB E w.heap.size) (hg : w.grownBy W (some R)) (hR : Rl k l t k' l')
    (hO : OSt W t.ds (tmL t tp tc rp rc p c) (fun z => w.heap.size + 1 ≤ z ∧ z < W.heap.size)) (hr : Rdr R FB E l' k' W) :
    FormRet Rl R FB E w.heap.size l k w (.returned (tmV t tp tc rp rc p c))
      (((((((((W.setCell ⟨w.heap.size, 0, none⟩ (.int .i64 t.kind)).setCell ⟨w.heap.size, 1, none⟩ (.string t.name)).setCell ⟨w.heap.size, 2, none⟩ (.string t.other)).setCell ⟨w.heap.size, 3, none⟩ (.int .i64 t.n)).setCell ⟨w.heap.size, 4, none⟩ (.int .i64 t.ty.kind)).setCell ⟨w.heap.size, 5, none⟩ (.slice tp t.ty.args.length tc)).setCell ⟨w.heap.size, 6, none⟩ (.int .i64 t.res.kind)).setCell ⟨w.heap.size, 7, none⟩ (.slice rp t.res.args.length rc)).setCell ⟨w.heap.size, 8, none⟩ (.slice p t.args.length c)) := by
  have hbl := set9_below W w.heap.size w.heap.size (.int .i64 t.kind) (.string t.name) (.string t.other) (.int .i64 t.n) (.int .i64 t.ty.kind) (.slice tp t.ty.args.length tc) (.int .i64 t.res.kind) (.slice rp t.res.args.length rc) (.slice p t.args.length c) (Nat.le_refl _)
  have hsz := set9_size W w.heap.size (.int .i64 t.kind) (.string t.name) (.string t.other) (.int .i64 t.n) (.int .i64 t.ty.kind) (.slice tp t.ty.args.length tc) (.int .i64 t.res.kind) (.slice rp t.res.args.length rc) (.slice p t.args.length c)
  have hst := set9_stays W w.heap.size (.int .i64 t.kind) (.string t.name) (.string t.other) (.int .i64 t.n) (.int .i64 t.ty.kind) (.slice tp t.ty.args.length tc) (.int .i64 t.res.kind) (.slice rp t.res.args.length rc) (.slice p t.args.length c)
  exact ⟨gb_more hg (Nat.le_refl _) hbl, t, k', l', _, rfl, hR, ⟨tp, tc, rp, rc, p, c, rfl, (hO.stays (hst _ (by omega))).mono (fun z hz => ⟨by omega, by rw [hsz]; exact hz.2⟩)⟩, hr.belowAt hu hbl⟩
def FormOk (Rl : RdF) (R FB : Nat) (E : Nat → Nat) (k : Nat) (f : Nat) (cap : Array Value) : Prop := ∀ (l : List UInt8) (W : World), Small l → Rdr R FB E l k W → Calls Tryz.prog f (#[.pointer (some ⟨R, 0, none⟩)] ++ cap) W (FormRet Rl R FB E W.heap.size l k W)
theorem os_nil (W : World) (F : Nat → Prop) : OS W [] (.slice none 0 0) F := .none F

set_option maxRecDepth 100000 in
set_option maxHeartbeats 1000000 in
theorem cap_any {F : RdF} (hF : Bd F) {R FB : Nat} {E : Nat → Nat} {k0 : Nat} (hOk : TermOk F R FB E k0) (i : Nat) (hi : i < 8) (kk : Int) (a : ByteArray) (n : Int) (he : capE i = .mk kk a E0 n Z0 Z0 []) (hkd : 1 ≤ kk ∧ kk ≤ 13 ∧ kk ≠ 2) (ha : a.size ≤ 2097152) (l : List UInt8) (k : Nat) (w : World)
    (hk0 : k0 ≤ k) (hP : Pot k 998) (hl : Small l) (hr : Rdr R FB E l k w) :
    Calls Tryz.prog 94 #[.pointer (some ⟨R, 0, none⟩), .pointer (some ⟨E i, 0, none⟩)] w (FormRet (rdW F (capE i)) R FB E w.heap.size l k w) := by
  obtain ⟨w0, hw0, hs0, hb0, r0⟩ := box_new w zeroC 29
  have hr0 := hr.below hb0
  have hcap := hr0.caps i hi
  rw [he] at hcap ⊢
  have g0 : w0.cell? ⟨E i, 0, none⟩ = some (.int .i64 kk) := cell_of_blk hcap 0
  have g1 : w0.cell? ⟨E i, 1, none⟩ = some (.string a) := cell_of_blk hcap 1
  have g2 : w0.cell? ⟨E i, 2, none⟩ = some (.string E0) := cell_of_blk hcap 2
  have g3 : w0.cell? ⟨E i, 3, none⟩ = some (.int .i64 n) := cell_of_blk hcap 3
  have g4 : w0.cell? ⟨E i, 4, none⟩ = some (.int .i64 0) := cell_of_blk hcap 4
  have g5 : w0.cell? ⟨E i, 5, none⟩ = some (.slice none 0 0) := cell_of_blk hcap 5
  have g6 : w0.cell? ⟨E i, 6, none⟩ = some (.int .i64 0) := cell_of_blk hcap 6
  have g7 : w0.cell? ⟨E i, 7, none⟩ = some (.slice none 0 0) := cell_of_blk hcap 7
  have g8 : w0.cell? ⟨E i, 8, none⟩ = some (.slice none 0 0) := cell_of_blk hcap 8
  have HU := Lib.hid hr.under
  have hub : Rdr.Under R FB E (w.heap.size + 1) := ⟨by have := hr.lt; omega, by have := hr.ltF; omega, fun i hi => by have := hr.ltE i hi; omega⟩
  have HC := Lib.hid (args_any hF hOk kk a E0 n Z0 Z0 none 0 none 0 (w.heap.size + 1) (fun _ => False) (fun _ => False) l k w0 hk0 hP hl hr0 hub (by omega) hkd ha (by decide) (by decide) (by decide) (os_nil _ _) (os_nil _ _) (fun z hz => hz.elim) (fun z hz => hz.elim))
  have HB0 := Lib.hid hb0
  have R0 := Lib.hid r0
  have HS0 := Lib.hid hs0
  clear hr hr0 hcap hb0 r0 hub he hs0
  go_enter Tryz.func94, Tryz.ntmps94
  go_wp2_with fail
  refine HC.out.mono ?_
  rintro e w1 ⟨hg1, x, k1, l1, v1, rfl, hR1, ⟨tp, tc, rp, rc, p, c, rfl, hO1⟩, hr1⟩
  have hro := (hg1.block w.heap.size (by have := HS0.out; omega) (fun e => by have := HU.out.1; have := Option.some.inj e; omega)).trans R0.out
  have r0 := cell_of_blk hro 0
  have r1 := cell_of_blk hro 1
  have r2 := cell_of_blk hro 2
  have r3 := cell_of_blk hro 3
  have r4 := cell_of_blk hro 4
  have r5 := cell_of_blk hro 5
  have r6 := cell_of_blk hro 6
  have r7 := cell_of_blk hro 7
  have r8 := cell_of_blk hro 8
  have rz := unfrozen_of_blk hro
  simp only [List.getElem?_toArray, List.getElem?_cons_zero, List.getElem?_cons_succ] at r0 r1 r2 r3 r4 r5 r6 r7 r8
  have HX := Lib.hid (And.intro hg1 (And.intro hR1 (And.intro hO1 hr1)))
  clear hg1 hR1 hO1 hr1 hro g0 g1 g2 g3 g4 g5 g6 g7 g8
  go_wp2_with fail
  obtain ⟨hg1, hR1, hO1, hr1⟩ := HX.out
  refine bodyPost_ret (v := tmV x tp tc rp rc p c) ?_ rfl ?_
  · rw [results_cell1 rfl]
    go_simp
    all_goals (repeat' apply And.intro) <;> rfl
  · exact form_out HU.out (grownBy_trans (gb_below HB0.out _) hg1) hR1 hO1 hr1
end Go.Proofs.YtjobmgbchpoheaaGreatDoor
