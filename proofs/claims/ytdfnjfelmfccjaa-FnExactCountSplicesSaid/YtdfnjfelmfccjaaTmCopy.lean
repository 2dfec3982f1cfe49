/-
  The contract of the laws' toTermS and toTerm: the same term, in rows of the call's own.
-/
import Derived.Test.YtdfnjfelmfccjaaTmSz
import Derived.Test.YtdfnjfelmfccjaaTyCopy
namespace Go.Proofs.Ytdfnjfelmfccjaa
open Go Go.RowKit

theorem infoTm : (Try.prog.info? 35).map (fun i => (i.zero, i.size, i.bytes)) = some (some (.agg #[.int .i64 0, .string ⟨#[]⟩, .string ⟨#[]⟩, .int .i64 0, .int .i64 0, .slice none 0 0, .int .i64 0, .slice none 0 0, .slice none 0 0]), 9, 136) := by kernel_rfl

theorem chain3 (w : World) (a b c : Obj) : ((((w.alloc a).alloc b).alloc c).heap[w.heap.size]? = some a ∧ (((w.alloc a).alloc b).alloc c).heap[w.heap.size + 1]? = some b ∧ (((w.alloc a).alloc b).alloc c).heap[w.heap.size + 1 + 1]? = some c) ∧
    (((w.alloc a).alloc b).alloc c).heap.size = w.heap.size + 3 ∧ Below w.heap.size w (((w.alloc a).alloc b).alloc c) := by
  refine ⟨⟨?_, ?_, ?_⟩, by simp, ((al_below w a).trans ((al_below _ b).mono (by simp))).trans ((al_below _ c).mono (by simp; omega))⟩
  · rw [Below.heap_alloc _ _ _ (by simp; omega), Below.heap_alloc _ _ _ (by simp)]; exact blk_new w a
  · rw [Below.heap_alloc _ _ _ (by simp)]
    have := blk_new (w.alloc a) b
    rwa [World.size_alloc] at this
  · have := blk_new ((w.alloc a).alloc b) c
    rwa [World.size_alloc, World.size_alloc] at this

/-- A term of the call's own; F: the blocks, which are apart. -/
abbrev tmL (t : Tm) (tp : Option Addr) (tc : Nat) (rp : Option Addr) (rc : Nat) (p : Option Addr) (c : Nat) : List Value :=
  [.int .i64 t.kind, .string t.name, .string t.other, .int .i64 t.n, .int .i64 t.ty.kind, .slice tp t.ty.args.length tc, .int .i64 t.res.kind, .slice rp t.res.args.length rc, .slice p t.args.length c]
def OMv (w : World) (t : Tm) (v : Value) (F : Nat → Prop) : Prop := ∃ tp tc rp rc p c, v = tmV t tp tc rp rc p c ∧ OSt w t.ds (tmL t tp tc rp rc p c) F
theorem OSt.tm {w : World} {t : Tm} {tp rp p : Option Addr} {tc rc c : Nat} {F : Nat → Prop} (h : OSt w t.ds (tmL t tp tc rp rc p c) F) : TM' w F t tp tc rp rc p c := by
  have hm := h.ms.2
  rw [t.ds_eq] at hm
  exact ⟨(hm 5 _ _ rfl rfl).ts _ (Nat.le_refl _), (hm 7 _ _ rfl rfl).ts _ (Nat.le_refl _), hm 8 _ _ rfl rfl⟩
theorem OMv.tm {w : World} {t : Tm} {v : Value} {F : Nat → Prop} (h : OMv w t v F) : TM w F t v := by
  obtain ⟨tp, tc, rp, rc, p, c, hv, h⟩ := h
  exact ⟨tp, tc, rp, rc, p, c, hv, h.tm⟩
theorem OMv.stays {w w' : World} {t : Tm} {v : Value} {F : Nat → Prop} (h : OMv w t v F) (hs : Stays F w w') : OMv w' t v F := by
  obtain ⟨tp, tc, rp, rc, p, c, hv, h⟩ := h
  exact ⟨tp, tc, rp, rc, p, c, hv, h.stays hs⟩
theorem OMv.keep {w w' : World} {t : Tm} {v : Value} {F : Nat → Prop} (h : OMv w t v F) (hb : Below w.heap.size w w') : OMv w' t v F := h.stays (.of_below hb)
theorem OMv.mono {w : World} {t : Tm} {v : Value} {F F' : Nat → Prop} (h : OMv w t v F) (hF : ∀ b, F b → F' b) : OMv w t v F' := by
  obtain ⟨tp, tc, rp, rc, p, c, hv, h⟩ := h
  exact ⟨tp, tc, rp, rc, p, c, hv, h.mono hF⟩
theorem OSt9 {w : World} {t : Tm} {tp rp p : Option Addr} {tc rc c : Nat} {F F1 F2 F3 : Nat → Prop} (h1 : OS w t.ty.args (.slice tp t.ty.args.length tc) F1) (h2 : OS w t.res.args (.slice rp t.res.args.length rc) F2) (h3 : DO w (tmD t.args) (.slice p t.args.length c) F3)
    (a1 : ∀ z, F1 z → F z ∧ ¬ F2 z ∧ ¬ F3 z) (a2 : ∀ z, F2 z → F z ∧ ¬ F3 z) (a3 : ∀ z, F3 z → F z) : OSt w t.ds (tmL t tp tc rp rc p c) F := by
  refine ⟨by rw [t.ds_len]; rfl, fun i z => (i = 5 ∧ F1 z) ∨ (i = 7 ∧ F2 z) ∨ (i = 8 ∧ F3 z), fun i d v hd hv => ?_, fun i z _ hz => ?_, fun i j z _ _ hij hz1 hz2 => ?_⟩
  · rw [t.ds_eq] at hd
    match i, hd, hv with
    | 0, hd, hv => cases hd; cases hv; exact .cell _ _
    | 1, hd, hv => cases hd; cases hv; exact .cell _ _
    | 2, hd, hv => cases hd; cases hv; exact .cell _ _
    | 3, hd, hv => cases hd; cases hv; exact .cell _ _
    | 4, hd, hv => cases hd; cases hv; exact .cell _ _
    | 5, hd, hv => cases hd; cases hv; exact h1.dO.mono (fun z hz => Or.inl ⟨rfl, hz⟩)
    | 6, hd, hv => cases hd; cases hv; exact .cell _ _
    | 7, hd, hv => cases hd; cases hv; exact h2.dO.mono (fun z hz => Or.inr (Or.inl ⟨rfl, hz⟩))
    | 8, hd, hv => cases hd; cases hv; exact h3.mono (fun z hz => Or.inr (Or.inr ⟨rfl, hz⟩))
    | n + 9, hd, hv => simp at hv
  · rcases hz with ⟨_, hz⟩ | ⟨_, hz⟩ | ⟨_, hz⟩
    · exact (a1 z hz).1
    · exact (a2 z hz).1
    · exact a3 z hz
  · rcases hz1 with ⟨rfl, h1⟩ | ⟨rfl, h1⟩ | ⟨rfl, h1⟩ <;> rcases hz2 with ⟨rfl, h2⟩ | ⟨rfl, h2⟩ | ⟨rfl, h2⟩
    · exact hij rfl
    · exact (a1 z h1).2.1 h2
    · exact (a1 z h1).2.2 h2
    · exact (a1 z h2).2.1 h1
    · exact hij rfl
    · exact (a2 z h1).2 h2
    · exact (a1 z h2).2.2 h1
    · exact (a2 z h2).2 h1
    · exact hij rfl

/-- A new term: the same as t, in blocks that were not there. -/
def NewM (t : Tm) (w : World) (e : Ending) (w' : World) : Prop := ∃ v, e = .returned v ∧ OMv w' t v (fun g => w.heap.size ≤ g ∧ g < w'.heap.size) ∧ Below w.heap.size w w'
def NewMS (ts : List Tm) (w : World) (e : Ending) (w' : World) : Prop := ∃ v, e = .returned v ∧ DO w' (tmD ts) v (fun g => w.heap.size ≤ g ∧ g < w'.heap.size) ∧ Below w.heap.size w w'

set_option maxRecDepth 100000 in
set_option maxHeartbeats 2000000 in
theorem toM_of {C : Nat → Prop} {t : Tm} {tp rp p : Option Addr} {tc rc c : Nat} {w : World} (hT : TM' w C t tp tc rp rc p c) (hn : t.wt ≤ 1048576)
    (h : ∀ (w' : World), Below w.heap.size w w' → Calls Try.prog 13 #[.slice p t.args.length c] w' (NewMS t.args w')) :
    Calls Try.prog 6 #[tmV t tp tc rp rc p c] w (NewM t w) := by
  have hwt := t.wt_eq
  have n1 : nodesS t.ty.args ≤ 1048576 := by omega
  have n2 : nodesS t.res.args ≤ 1048576 := by omega
  obtain ⟨⟨k0, k1, k2⟩, hsz, hbl⟩ := chain3 w (.cells (tmC t tp tc rp rc p c) 27) (.cells #[.int .i64 0, .string ⟨#[]⟩, .string ⟨#[]⟩, .int .i64 0, .int .i64 0, .slice none 0 0, .int .i64 0, .slice none 0 0, .slice none 0 0] 35)
    (.cells #[.int .i64 t.kind, .string t.name, .string t.other, .int .i64 t.n, .int .i64 0, .slice none 0 0, .int .i64 0, .slice none 0 0, .slice none 0 0] 35)
  have HH := Lib.hid h
  have HT := Lib.hid hT
  have HK0 := Lib.hid k0
  have HK1 := Lib.hid k1
  have HK2 := Lib.hid k2
  have HSZ := Lib.hid hsz
  have HBL := Lib.hid hbl
  clear h hT hwt hn k0 k1 k2 hsz hbl
  go_enter Try.func6, Try.ntmps6
  go_wp2_with fail
  refine (toT_any (C := C) (t := t.ty) (v := .agg #[.int .i64 t.ty.kind, .slice tp t.ty.args.length tc]) ⟨_, rfl, HT.out.ty.keep HBL.out⟩ n1).mono ?_
  rintro e w1 ⟨v1, rfl, ⟨s1, rfl, ho1⟩, hb1⟩
  obtain ⟨p1, c1, rfl⟩ := ho1.form
  have hb1s := hb1.size
  rw [HSZ.out] at hb1 hb1s ho1
  have q0 := (hb1.block w.heap.size (by omega)).trans HK0.out
  have q1 := (hb1.block (w.heap.size + 1) (by omega)).trans HK1.out
  have q2 := (hb1.block (w.heap.size + 1 + 1) (by omega)).trans HK2.out
  obtain ⟨_, _, _, _, _, _, x6, x7, x8⟩ := Bx9.of q0
  have y4 : w1.cell? ⟨w.heap.size + 1 + 1, 4, none⟩ = some (.int .i64 0) := cell_of_blk q2 4
  have y5 : w1.cell? ⟨w.heap.size + 1 + 1, 5, none⟩ = some (.slice none 0 0) := cell_of_blk q2 5
  have yz := unfrozen_of_blk q2
  have e2 := heap_setCell_same _ _ 5 _ _ (.slice p1 t.ty.args.length c1) (heap_setCell_same w1 _ 4 _ _ (.int .i64 t.ty.kind) q2)
  have st : ∀ F : Nat → Prop, ¬ F (w.heap.size + 1 + 1) → Stays F w1 ((w1.setCell ⟨w.heap.size + 1 + 1, 4, none⟩ (.int .i64 t.ty.kind)).setCell ⟨w.heap.size + 1 + 1, 5, none⟩ (.slice p1 t.ty.args.length c1)) := fun F hF => (setCell_stays _ _ _ _ F hF).trans (setCell_stays _ _ _ _ F hF)
  have HS1 := Lib.hid (st (fun z => z ≠ w.heap.size + 1 + 1) (by simp))
  have HO1 := Lib.hid (ho1.stays (st _ (by omega)))
  have HQ0 := Lib.hid ((HS1.out.2 w.heap.size (by omega) (by omega)).trans q0)
  have HQ1 := Lib.hid ((HS1.out.2 (w.heap.size + 1) (by omega) (by omega)).trans q1)
  have HQ2 := Lib.hid e2
  have hB2 : Below w.heap.size w ((w1.setCell ⟨w.heap.size + 1 + 1, 4, none⟩ (.int .i64 t.ty.kind)).setCell ⟨w.heap.size + 1 + 1, 5, none⟩ (.slice p1 t.ty.args.length c1)) :=
    ((HBL.out.trans (hb1.mono (by omega))).setCell (p := ⟨w.heap.size + 1 + 1, 4, none⟩) (by show w.heap.size ≤ w.heap.size + 1 + 1; omega) _).setCell (p := ⟨w.heap.size + 1 + 1, 5, none⟩) (by show w.heap.size ≤ w.heap.size + 1 + 1; omega) _
  have HB2 := Lib.hid hB2
  have HZ2 := Lib.hid (show ((w1.setCell ⟨w.heap.size + 1 + 1, 4, none⟩ (.int .i64 t.ty.kind)).setCell ⟨w.heap.size + 1 + 1, 5, none⟩ (.slice p1 t.ty.args.length c1)).heap.size = w1.heap.size by simp [World.setCell])
  have HC2 := Lib.hid (toT_any (C := C) (t := t.res) (v := .agg #[.int .i64 t.res.kind, .slice rp t.res.args.length rc]) ⟨_, rfl, HT.out.res.keep hB2⟩ n2)
  have L1 := Lib.hid hb1s
  clear q0 q1 q2 e2 st hB2 ho1 hb1 hb1s
  go_wp2_with fail
  refine HC2.out.mono ?_
  rintro e w2 ⟨v2, rfl, ⟨s2, rfl, ho2⟩, hb2⟩
  obtain ⟨p2, c2, rfl⟩ := ho2.form
  have hb2s := hb2.size
  rw [HZ2.out] at hb2 hb2s ho2
  have hl1 := L1.out
  have q0 := (hb2.block w.heap.size (by omega)).trans HQ0.out
  have q1 := (hb2.block (w.heap.size + 1) (by omega)).trans HQ1.out
  have q2 := (hb2.block (w.heap.size + 1 + 1) (by omega)).trans HQ2.out
  clear x6 x7 x8 y4 y5 yz
  obtain ⟨_, _, _, _, _, _, _, _, x8⟩ := Bx9.of q0
  have y6 : w2.cell? ⟨w.heap.size + 1 + 1, 6, none⟩ = some (.int .i64 0) := cell_of_blk q2 6
  have y7 : w2.cell? ⟨w.heap.size + 1 + 1, 7, none⟩ = some (.slice none 0 0) := cell_of_blk q2 7
  have yz := unfrozen_of_blk q2
  have e2 := heap_setCell_same _ _ 7 _ _ (.slice p2 t.res.args.length c2) (heap_setCell_same w2 _ 6 _ _ (.int .i64 t.res.kind) q2)
  have st : ∀ F : Nat → Prop, ¬ F (w.heap.size + 1 + 1) → Stays F w2 ((w2.setCell ⟨w.heap.size + 1 + 1, 6, none⟩ (.int .i64 t.res.kind)).setCell ⟨w.heap.size + 1 + 1, 7, none⟩ (.slice p2 t.res.args.length c2)) := fun F hF => (setCell_stays _ _ _ _ F hF).trans (setCell_stays _ _ _ _ F hF)
  have HS2 := Lib.hid (st (fun z => z ≠ w.heap.size + 1 + 1) (by simp))
  have HO12 := Lib.hid ((HO1.out.stays (.of_below (HZ2.out.symm ▸ hb2))).stays (st _ (by omega)))
  have HO2 := Lib.hid (ho2.stays (st _ (by omega)))
  have HP0 := Lib.hid ((HS2.out.2 w.heap.size (by omega) (by omega)).trans q0)
  have HP1 := Lib.hid ((HS2.out.2 (w.heap.size + 1) (by omega) (by omega)).trans q1)
  have HP2 := Lib.hid e2
  have hB3 : Below w.heap.size w ((w2.setCell ⟨w.heap.size + 1 + 1, 6, none⟩ (.int .i64 t.res.kind)).setCell ⟨w.heap.size + 1 + 1, 7, none⟩ (.slice p2 t.res.args.length c2)) :=
    ((HB2.out.trans (hb2.mono (by omega))).setCell (p := ⟨w.heap.size + 1 + 1, 6, none⟩) (by show w.heap.size ≤ w.heap.size + 1 + 1; omega) _).setCell (p := ⟨w.heap.size + 1 + 1, 7, none⟩) (by show w.heap.size ≤ w.heap.size + 1 + 1; omega) _
  have HB3 := Lib.hid hB3
  have HZ3 := Lib.hid (show ((w2.setCell ⟨w.heap.size + 1 + 1, 6, none⟩ (.int .i64 t.res.kind)).setCell ⟨w.heap.size + 1 + 1, 7, none⟩ (.slice p2 t.res.args.length c2)).heap.size = w2.heap.size by simp [World.setCell])
  have HC3 := Lib.hid (HH.out _ hB3)
  have L2 := Lib.hid hb2s
  clear q0 q1 q2 e2 st hB3 ho2 hb2 hb2s hl1
  go_wp2_with fail
  refine HC3.out.mono ?_
  rintro e w3 ⟨v3, rfl, ho3, hb3⟩
  obtain ⟨p3, c3, rfl⟩ := ho3.form
  have hb3s := hb3.size
  rw [HZ3.out] at hb3 hb3s ho3
  have hl1 := L1.out
  have hl2 := L2.out
  have q1 := (hb3.block (w.heap.size + 1) (by omega)).trans HP1.out
  have q2 := (hb3.block (w.heap.size + 1 + 1) (by omega)).trans HP2.out
  clear x8 y6 y7 yz
  have y0 : w3.cell? ⟨w.heap.size + 1 + 1, 0, none⟩ = some (.int .i64 t.kind) := cell_of_blk q2 0
  have y1 : w3.cell? ⟨w.heap.size + 1 + 1, 1, none⟩ = some (.string t.name) := cell_of_blk q2 1
  have y2 : w3.cell? ⟨w.heap.size + 1 + 1, 2, none⟩ = some (.string t.other) := cell_of_blk q2 2
  have y3 : w3.cell? ⟨w.heap.size + 1 + 1, 3, none⟩ = some (.int .i64 t.n) := cell_of_blk q2 3
  have y4 : w3.cell? ⟨w.heap.size + 1 + 1, 4, none⟩ = some (.int .i64 t.ty.kind) := cell_of_blk q2 4
  have y5 : w3.cell? ⟨w.heap.size + 1 + 1, 5, none⟩ = some (.slice p1 t.ty.args.length c1) := cell_of_blk q2 5
  have y6 : w3.cell? ⟨w.heap.size + 1 + 1, 6, none⟩ = some (.int .i64 t.res.kind) := cell_of_blk q2 6
  have y7 : w3.cell? ⟨w.heap.size + 1 + 1, 7, none⟩ = some (.slice p2 t.res.args.length c2) := cell_of_blk q2 7
  have y8 : w3.cell? ⟨w.heap.size + 1 + 1, 8, none⟩ = some (.slice none 0 0) := cell_of_blk q2 8
  have yz := unfrozen_of_blk q2
  have z0 : w3.cell? ⟨w.heap.size + 1, 0, none⟩ = some (.int .i64 0) := cell_of_blk q1 0
  have z1 : w3.cell? ⟨w.heap.size + 1, 1, none⟩ = some (.string ⟨#[]⟩) := cell_of_blk q1 1
  have z2 : w3.cell? ⟨w.heap.size + 1, 2, none⟩ = some (.string ⟨#[]⟩) := cell_of_blk q1 2
  have z3 : w3.cell? ⟨w.heap.size + 1, 3, none⟩ = some (.int .i64 0) := cell_of_blk q1 3
  have z4 : w3.cell? ⟨w.heap.size + 1, 4, none⟩ = some (.int .i64 0) := cell_of_blk q1 4
  have z5 : w3.cell? ⟨w.heap.size + 1, 5, none⟩ = some (.slice none 0 0) := cell_of_blk q1 5
  have z6 : w3.cell? ⟨w.heap.size + 1, 6, none⟩ = some (.int .i64 0) := cell_of_blk q1 6
  have z7 : w3.cell? ⟨w.heap.size + 1, 7, none⟩ = some (.slice none 0 0) := cell_of_blk q1 7
  have z8 : w3.cell? ⟨w.heap.size + 1, 8, none⟩ = some (.slice none 0 0) := cell_of_blk q1 8
  have zz := unfrozen_of_blk q1
  have hb3' : Below _ _ w3 := HZ3.out.symm ▸ hb3
  have HFIN := Lib.hid (OSt9 (t := t) (F := fun g => w.heap.size + 3 ≤ g ∧ g < w3.heap.size) (HO12.out.keep hb3') (HO2.out.keep hb3') ho3 (fun z hz => by omega) (fun z hz => by omega) (fun z hz => by omega))
  have HB4 := Lib.hid (HB3.out.trans (hb3'.mono HB3.out.size))
  clear q1 q2 ho3 hb3 hb3' hb3s hl1 hl2
  go_wp2_with fail
  refine bodyPost_ret (v := tmV t p1 c1 p2 c2 p3 c3) ?_ rfl ?_
  · rw [results_cell1 rfl]
    go_simp
  · refine ⟨_, rfl, ⟨p1, c1, p2, c2, p3, c3, rfl, OSt.mono (OSt.stays HFIN.out ?_) (fun z hz => ⟨by omega, ?_⟩)⟩, ?_⟩
    · iterate 10 (refine Stays.trans ?_ (setCell_stays _ _ _ _ _ (by omega)))
      exact Stays.refl _ _
    · have := hz.2
      simp [World.setCell]
      omega
    iterate 10 (refine Below.setCell ?_ (by dsimp only; omega) _)
    exact HB4.out
end Go.Proofs.Ytdfnjfelmfccjaa

