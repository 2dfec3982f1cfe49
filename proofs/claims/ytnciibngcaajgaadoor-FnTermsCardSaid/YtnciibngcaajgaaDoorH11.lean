/-
  Several texts of the proof in one (each says below what it holds): TmDrawV DrawTypes DrawTypes2 TmDrawE TmDrawOp KA TmValid.
-/
import Derived.Test.YtnciibngcaajgaaDoorH10
import Derived.Test.YtnciibngcaajgaaDoorH8
import Derived.Test.YtnciibngcaajgaaDoorH5
import Derived.Lib.LaidTab
/- TmDrawV: The contract of the draws' DrawIsValidTerm: a drawn term, now and then lifted many times (gendiv.py writes this text). -/
namespace Go.Proofs.YtnciibngcaajgaaDoor
open Go Go.RowKit

/-- While a drawn term is lifted in the box bx. -/
structure Lifts (w W : World) (b bx : Nat) (t : Tm) (tp : Option Addr) (tc : Nat) (rp : Option Addr) (rc : Nat) (p : Option Addr) (c : Nat) : Prop where
  cur : Cur W b
  r : W.heap[w.heap.size]? = some (.cells zero9 29 (0, 0))
  box : W.heap[bx]? = some (.cells (tmC t tp tc rp rc p c) 29 (0, 0))
  tm : TM' W (fun z => b < z ∧ z ≠ bx) t tp tc rp rc p c
  below : Below w.heap.size w W
  ltb : w.heap.size < b
  ltx : b < bx
section
variable {w W W' : World} {b bx : Nat} {t : Tm} {tp rp p : Option Addr} {tc rc c : Nat}
theorem Lifts.bxlt (h : Lifts w W b bx t tp tc rp rc p c) : bx < W.heap.size := (Array.getElem?_eq_some_iff.1 h.box).1
theorem Lifts.step (h : Lifts w W b bx t tp tc rp rc p c) (hc : Cur W' b) (hg : W.grownBy W' (some b)) : Lifts w W' b bx t tp tc rp rc p c :=
  have h1 := h.ltb
  have h2 := h.ltx
  have h3 := h.bxlt
  ⟨hc, (hg.block _ (by omega) (fun e => by have := Option.some.inj e; omega)).trans h.r, (hg.block _ h3 (fun e => by have := Option.some.inj e; omega)).trans h.box,
    h.tm.stays ⟨hg.size, fun z hz hl => hg.block z hl (fun e => by have := Option.some.inj e; omega)⟩, h.below.grown hg (by omega) (fun k hk => by cases hk; omega), h1, h2⟩
theorem Lifts.facts (h : Lifts w W b bx t tp tc rp rc p c) : Bx9 W bx t tp tc rp rc p c ∧ (∀ i, W.frozen? ⟨bx, i, none⟩ = false) ∧ (W.cell? ⟨w.heap.size, 0, none⟩ = some (.int .i64 0) ∧ W.cell? ⟨w.heap.size, 1, none⟩ = some (.string ⟨#[]⟩) ∧ W.cell? ⟨w.heap.size, 2, none⟩ = some (.string ⟨#[]⟩) ∧ W.cell? ⟨w.heap.size, 3, none⟩ = some (.int .i64 0) ∧ W.cell? ⟨w.heap.size, 4, none⟩ = some (.int .i64 0) ∧ W.cell? ⟨w.heap.size, 5, none⟩ = some (.slice none 0 0) ∧ W.cell? ⟨w.heap.size, 6, none⟩ = some (.int .i64 0) ∧ W.cell? ⟨w.heap.size, 7, none⟩ = some (.slice none 0 0) ∧ W.cell? ⟨w.heap.size, 8, none⟩ = some (.slice none 0 0)) ∧ ∀ i, W.frozen? ⟨w.heap.size, i, none⟩ = false :=
  ⟨Bx9.of h.box, unfrozen_of_blk h.box, ⟨cell_of_blk h.r 0, cell_of_blk h.r 1, cell_of_blk h.r 2, cell_of_blk h.r 3, cell_of_blk h.r 4, cell_of_blk h.r 5, cell_of_blk h.r 6, cell_of_blk h.r 7, cell_of_blk h.r 8⟩, unfrozen_of_blk h.r⟩
/-- The term in a new row of one. -/
theorem row_one {C C' : Nat → Prop} (h : TM' W C t tp tc rp rc p c) (hC : ∀ z, C z → z < W.heap.size → C' z) (hN : C' W.heap.size) : DM (W.alloc (.cells (tmC t tp tc rp rc p c) 29)) C' (tmD [t]) (.slice (some ⟨W.heap.size, 0, none⟩) 1 1) := by
  have hms := ((h.mono hC).stays (.of_below (al_below W (.cells (tmC t tp tc rp rc p c) 29)))).ms
  have hf : flatTm [t] = t.ds := by simp [flatTm]
  have hcell : ∀ i d, t.ds[i]? = some d → (W.alloc (.cells (tmC t tp tc rp rc p c) 29)).cell? ⟨W.heap.size, 0 + i, none⟩ = some ((tmC t tp tc rp rc p c).toList[i]?.getD .nilIface) := fun i d hd => by
    have hi := (List.getElem?_eq_some_iff.1 hd).1
    rw [t.ds_len] at hi
    rw [Nat.zero_add, cell_of_blk (blk_new W _) i]
    rw [← Array.getElem?_toList, List.getElem?_eq_getElem (by simpa using hi)]
    rfl
  show DM _ _ (.rows _ 9 1 (flatTm [t])) _
  rw [hf]
  exact DM.rows (fun i => (tmC t tp tc rp rc p c).toList[i]?.getD .nilIface) (by omega) (by omega) (by omega) (by rw [t.ds_len]) hN (by simp) hcell
    (fun i d hd => hms.2 i d _ hd (by
      have hi := (List.getElem?_eq_some_iff.1 hd).1
      rw [t.ds_len] at hi
      rw [List.getElem?_eq_getElem (by simpa using hi)]
      rfl))
set_option maxHeartbeats 1000000 in
/-- The term lifted once. -/
theorem Lifts.next (h : Lifts w W b bx t tp tc rp rc p c) :
    Lifts w (setN (W.alloc (.cells (tmC t tp tc rp rc p c) 29)) bx 0 [.int .i64 13, .string ⟨#[]⟩, .string ⟨#[]⟩, .int .i64 0, .int .i64 0, .slice none 0 0, .int .i64 0, .slice none 0 0, .slice (some ⟨W.heap.size, 0, none⟩) 1 1]) b bx (.mk 13 ⟨#[]⟩ ⟨#[]⟩ 0 (.mk 0 []) (.mk 0 []) [t]) none 0 none 0 (some ⟨W.heap.size, 0, none⟩) 1 := by
  have h1 := h.ltb
  have h2 := h.ltx
  have h3 := h.bxlt
  have ha := al_below W (.cells (tmC t tp tc rp rc p c) 29)
  have hb := setN_below [.int .i64 13, .string ⟨#[]⟩, .string ⟨#[]⟩, .int .i64 0, .int .i64 0, .slice none 0 0, .int .i64 0, .slice none 0 0, .slice (some ⟨W.heap.size, 0, none⟩) 1 1] bx (W.alloc (.cells (tmC t tp tc rp rc p c) 29)) bx 0 (Nat.le_refl _)
  have hr := row_one (C' := fun z => b < z ∧ z ≠ bx) h.tm (fun _ hz _ => hz) ⟨by omega, by omega⟩
  have hst := setN_stays [.int .i64 13, .string ⟨#[]⟩, .string ⟨#[]⟩, .int .i64 0, .int .i64 0, .slice none 0 0, .int .i64 0, .slice none 0 0, .slice (some ⟨W.heap.size, 0, none⟩) 1 1] (fun z => b < z ∧ z ≠ bx) (W.alloc (.cells (tmC t tp tc rp rc p c) 29)) bx 0 (by simp)
  refine ⟨(h.cur.below ha).belowAt h2 hb, (hb.block _ (by omega)).trans ((ha.block _ (by omega)).trans h.r), ?_, ⟨.nil _ _, .nil _ _, hr.stays hst⟩, (h.below.trans (ha.mono h.below.size)).trans (hb.mono (by omega)), h1, h2⟩
  rw [setN_block _ _ _ _ _ _ ((ha.block _ h3).trans h.box)]
  simp [setA, tmC, Tm.kind, Tm.name, Tm.other, Tm.n, Tm.ty, Tm.res, Tm.args, Ty.kind, Ty.args]
end

/-- A call that draws a term. -/
def DrawsM (m : Nat) (w : World) (e : Ending) (w' : World) : Prop := ∃ v t, e = .returned v ∧ t.wt ≤ m ∧ TM w' (fun z => w.heap.size ≤ z) t v ∧ Below w.heap.size w w'
theorem Lifts.fin {w W : World} {b bx m : Nat} {t : Tm} {tp rp p : Option Addr} {tc rc c : Nat} (h : Lifts w W b bx t tp tc rp rc p c) (hm : t.wt ≤ m) : DrawsM m w (.returned (tmV t tp tc rp rc p c)) (setN W w.heap.size 0 [.int .i64 t.kind, .string t.name, .string t.other, .int .i64 t.n, .int .i64 t.ty.kind, .slice tp t.ty.args.length tc, .int .i64 t.res.kind, .slice rp t.res.args.length rc, .slice p t.args.length c]) := by
  have h1 := h.ltb
  have hb := setN_below [.int .i64 t.kind, .string t.name, .string t.other, .int .i64 t.n, .int .i64 t.ty.kind, .slice tp t.ty.args.length tc, .int .i64 t.res.kind, .slice rp t.res.args.length rc, .slice p t.args.length c] w.heap.size W w.heap.size 0 (Nat.le_refl _)
  have hst := setN_stays [.int .i64 t.kind, .string t.name, .string t.other, .int .i64 t.n, .int .i64 t.ty.kind, .slice tp t.ty.args.length tc, .int .i64 t.res.kind, .slice rp t.res.args.length rc, .slice p t.args.length c] (fun z => w.heap.size < z) W w.heap.size 0 (by simp)
  refine ⟨_, t, rfl, hm, ⟨tp, tc, rp, rc, p, c, rfl, ((h.tm.mono (C' := fun z => w.heap.size < z) (fun z hz _ => by omega)).stays hst).mono (fun z hz _ => by omega)⟩, h.below.trans (hb.mono (Nat.le_refl _))⟩

set_option maxRecDepth 100000 in
set_option maxHeartbeats 4000000 in
theorem drawV_any (v : Value) (w : World) (hv : Bytes w v) (hlen : sliceLen v ≤ 1048576) : Calls Tryd.prog 7 #[v] w (DrawsM 420 w) := by
  have hba := al_below w (.cells zero9 29)
  have hn := new_any v (w.alloc (.cells zero9 29)) (hv.below hba) hlen
  have HN := Lib.hid hn
  have HBA := Lib.hid hba
  have HR := Lib.hid (blk_new w (.cells zero9 29))
  clear hv hlen hba hn
  go_enter Tryd.func7, Tryd.ntmps7
  go_wp2_with fail
  refine HN.out.mono ?_
  rintro e w1 ⟨rfl, hc1, hb1, hs1⟩
  rw [World.size_alloc] at hc1 hb1 hs1
  rw [World.size_alloc]
  have HC1 := Lib.hid hc1
  have HB1 := Lib.hid hb1
  have HS1 := Lib.hid hs1
  clear hc1 hb1 hs1
  go_wp2_with fail
  refine (bentM_any _ w1 HC1.out).mono ?_
  rintro e w2 ⟨t, tp, tc, rp, rc, p, c, xs, rfl, hw, hN, hc2, hg2⟩
  have hb1 := HB1.out
  have hs1 := HS1.out
  have hsz2 := hg2.size
  have hL : Lifts w (w2.alloc (.cells (tmC t tp tc rp rc p c) 29)) (w.heap.size + 1) w2.heap.size t tp tc rp rc p c := by
    have ha := al_below w2 (.cells (tmC t tp tc rp rc p c) 29)
    have htm : TM' w2 (fun z => w.heap.size + 1 < z ∧ z ≠ w2.heap.size) t tp tc rp rc p c := hN.tm.mono (fun z hz hl => ⟨by have : w1.heap.size ≤ z := hz; omega, by omega⟩)
    refine ⟨hc2.below ha, ?_, blk_new w2 _, htm.stays (.of_below ha), ?_, by omega, by omega⟩
    · exact (ha.block _ (by omega)).trans ((hg2.block _ (by omega) (fun e => by have := Option.some.inj e; omega)).trans ((hb1.block _ (by omega)).trans HR.out))
    · exact ((HBA.out.trans (hb1.mono (by omega))).grown hg2 (by omega) (fun k hk => by cases hk; omega)).trans (ha.mono (by omega))
  have HL := Lib.hid hL
  have HW := Lib.hid hw
  have HO := Lib.hid (once_any (w.heap.size + 1) 8 _ (by decide) (by decide) hL.cur)
  clear hL hb1 hs1 hc2 hg2 hN hw hsz2
  go_wp2_with fail
  refine HO.out.mono ?_
  rintro e w3 ⟨q, rfl, hc3, hg3⟩
  have hl3 := HL.out.step hc3 hg3
  have HL3 := Lib.hid hl3
  clear hc3 hg3 HO
  cases q with
  | false =>
    obtain ⟨⟨g0, g1, g2, g3, g4, g5, g6, g7, g8⟩, gz, ⟨x0, x1, x2, x3, x4, x5, x6, x7, x8⟩, xz⟩ := hl3.facts
    clear hl3
    go_wp2_with fail
    refine bodyPost_ret (v := tmV t tp tc rp rc p c) ?_ rfl ?_
    · rw [results_cell1 rfl]
      go_simp
    · have := HL3.out.fin (m := 420) (by have := HW.out; omega)
      rw [setN9] at this
      exact this
  | true =>
    clear hl3
    go_wp2_with fail
    refine (below_any (w.heap.size + 1) 5 w3 (by decide) (by decide) HL3.out.cur).mono ?_
    rintro e w4 ⟨y, hy, rfl, hc4, hg4⟩
    have HL4 := Lib.hid (HL3.out.step hc4 hg4)
    obtain ⟨y0, y5⟩ := hy
    clear hc4 hg4
    go_wp2_with fail
    go_loopw [6] (fun i wr => ∃ (j : Nat) (t : Tm) (tp : Option Addr) (tc : Nat) (rp : Option Addr) (rc : Nat) (p : Option Addr) (c : Nat), (j : Int) ≤ 16 + y ∧ i = .int .i64 j ∧ t.wt ≤ 400 + j ∧ Lifts w wr (w.heap.size + 1) w2.heap.size t tp tc rp rc p c) (fun i _ => (16 + y).toNat - (intOf i).toNat)
    case atStart => exact ⟨0, t, tp, tc, rp, rc, p, c, by omega, rfl, by have := HW.out; omega, HL4.out⟩
    case round =>
      obtain ⟨j, t, tp, tc, rp, rc, p, c, hj, rfl, hw, hl⟩ := hrel
      obtain ⟨⟨g0, g1, g2, g3, g4, g5, g6, g7, g8⟩, gz, ⟨x0, x1, x2, x3, x4, x5, x6, x7, x8⟩, xz⟩ := hl.facts
      have HLr := Lib.hid hl
      have HWr := Lib.hid hw
      have j0 : (0 : Int) ≤ (j : Int) := Int.natCast_nonneg _
      have j20 : (j : Int) ≤ 20 := by omega
      clear hl hw
      by_cases hlt : (j : Int) < 16 + y
      · have a0 := fun (o : Obj) => al_cell g0 o
        have a1 := fun (o : Obj) => al_cell g1 o
        have a2 := fun (o : Obj) => al_cell g2 o
        have a3 := fun (o : Obj) => al_cell g3 o
        have a4 := fun (o : Obj) => al_cell g4 o
        have a5 := fun (o : Obj) => al_cell g5 o
        have a6 := fun (o : Obj) => al_cell g6 o
        have a7 := fun (o : Obj) => al_cell g7 o
        have a8 := fun (o : Obj) => al_cell g8 o
        have az := al_frz HLr.out.box
        go_wp2_with fail
        go_roundw
        case rel =>
          refine ⟨j + 1, .mk 13 ⟨#[]⟩ ⟨#[]⟩ 0 (.mk 0 []) (.mk 0 []) [t], none, 0, none, 0, some ⟨wr.heap.size, 0, none⟩, 1, by omega, by go_num, ?_, ?_⟩
          · have := HWr.out
            have e1 : (⟨#[]⟩ : ByteArray).size = 0 := rfl
            simp only [Tm.wt, wtS, nodesS, e1, Ty.args]
            omega
          · have := HLr.out.next
            rw [setN9] at this
            exact this
        case measure => simp [intOf]; omega
      · go_wp2_with fail
        refine bodyPost_ret (v := tmV t tp tc rp rc p c) ?_ rfl ?_
        · rw [results_cell1 rfl]
          go_simp
        · have := HLr.out.fin (m := 420) (by have := HWr.out; omega)
          rw [setN9] at this
          exact this
end Go.Proofs.YtnciibngcaajgaaDoor
/- DrawTypes: The contracts of the draws of types: one type, two types. -/
namespace Go.Proofs.YtnciibngcaajgaaDoor
open Go Go.RowKit

theorem grown_start {w w1 w2 : World} (h : Below w.heap.size w w1) (hs : w1.heap.size = w.heap.size + 1) (hg : w1.grownBy w2 (some w.heap.size)) : Below w.heap.size w w2 :=
  h.grown hg (by omega) (fun k hk => by cases hk; exact Nat.le_refl _)

def DTy (w : World) (e : Ending) (w' : World) : Prop := ∃ v t, e = .returned v ∧ t.nodes ≤ 200 ∧ TT w' (fun z => w.heap.size ≤ z) t v ∧ Below w.heap.size w w'
def DTy2 (w : World) (e : Ending) (w' : World) : Prop := ∃ v x t u, e = .returned (.tuple #[v, x]) ∧ t.nodes ≤ 200 ∧ u.nodes ≤ 200 ∧ TT w' (fun z => w.heap.size ≤ z) t v ∧ TT w' (fun z => w.heap.size ≤ z) u x ∧ Below w.heap.size w w'

end Go.Proofs.YtnciibngcaajgaaDoor
/- DrawTypes2: The contract of the draw of two types. -/
namespace Go.Proofs.YtnciibngcaajgaaDoor
open Go Go.RowKit

theorem results_cell2 {fn : Func} {p q : Tmp} {ty ty' : TypeId} (h : fn.results = #[.cell p ty, .cell q ty']) (tmps : Array Value) (P : Program) (w : World) :
    (results fn tmps).run P w = ((asAddr (tmps.getD p undef)).run P w).andThen fun a w₁ => ((loadVar ty a).run P w₁).andThen fun v w₂ => ((asAddr (tmps.getD q undef)).run P w₂).andThen fun a' w₃ => ((loadVar ty' a').run P w₃).andThen fun v' w₄ => .ok (.tuple #[v, v']) w₄ := by
  simp only [results, h]
  simp [Sem.run_bind, Result.andThen]

/-- While the second type is drawn: the two results' cells as they were, the box bx that holds the first, the cursor. -/
structure Tws (w : World) (bx : Nat) (W : World) (t : Ty) (s : Value) : Prop where
  r0 : W.heap[w.heap.size]? = some (.cells #[.int .i64 0, .slice none 0 0] 26 (0, 0))
  r1 : W.heap[w.heap.size + 1]? = some (.cells #[.int .i64 0, .slice none 0 0] 26 (0, 0))
  box : W.heap[bx]? = some (.cells #[.int .i64 t.kind, s] 26 (0, 0))
  ts : TS W (fun z => w.heap.size + 3 ≤ z) t.args s
  cur : Cur W (w.heap.size + 2)
  below : Below w.heap.size w W
  lt : w.heap.size + 3 ≤ bx
theorem Tws.bxlt {w W : World} {bx : Nat} {t : Ty} {s : Value} (h : Tws w bx W t s) : bx < W.heap.size := (Array.getElem?_eq_some_iff.1 h.box).1
theorem Tws.step {w W W' : World} {bx : Nat} {t : Ty} {s : Value} (h : Tws w bx W t s) (hc : Cur W' (w.heap.size + 2)) (hg : W.grownBy W' (some (w.heap.size + 2))) : Tws w bx W' t s := by
  have hl := h.lt
  have hx := h.bxlt
  have key : ∀ k, k < W.heap.size → k ≠ w.heap.size + 2 → W'.heap[k]? = W.heap[k]? := fun k hk hne => hg.block k hk (fun e => hne (Option.some.inj e))
  exact ⟨(key _ (by omega) (by omega)).trans h.r0, (key _ (by omega) (by omega)).trans h.r1, (key _ hx (by omega)).trans h.box, h.ts.stays ⟨hg.size, fun z hz hl => key z hl (by omega)⟩, hc, h.below.grown hg h.below.size (fun k hk => by cases hk; omega), hl⟩
theorem Tws.keep {w W W' : World} {bx : Nat} {t : Ty} {s : Value} (h : Tws w bx W t s) (hb : Below W.heap.size W W') : Tws w bx W' t s := by
  have hl := h.lt
  have hx := h.bxlt
  exact ⟨(hb.block _ (by omega)).trans h.r0, (hb.block _ (by omega)).trans h.r1, (hb.block _ hx).trans h.box, h.ts.keep hb, h.cur.below hb, h.below.trans (hb.mono h.below.size), hl⟩
theorem Tws.tt {w W : World} {bx : Nat} {t : Ty} {s : Value} (h : Tws w bx W t s) : TT W (fun z => w.heap.size + 3 ≤ z) t (.agg #[.int .i64 t.kind, s]) := ⟨s, rfl, h.ts⟩
theorem Tws.facts {w W : World} {bx : Nat} {t : Ty} {s : Value} (h : Tws w bx W t s) :
    (W.cell? ⟨bx, 0, none⟩ = some (.int .i64 t.kind) ∧ W.cell? ⟨bx, 1, none⟩ = some s) ∧
    (W.cell? ⟨w.heap.size, 0, none⟩ = some (.int .i64 0) ∧ W.cell? ⟨w.heap.size, 1, none⟩ = some (.slice none 0 0) ∧ ∀ i, W.frozen? ⟨w.heap.size, i, none⟩ = false) ∧
    W.cell? ⟨w.heap.size + 1, 0, none⟩ = some (.int .i64 0) ∧ W.cell? ⟨w.heap.size + 1, 1, none⟩ = some (.slice none 0 0) ∧ ∀ i, W.frozen? ⟨w.heap.size + 1, i, none⟩ = false :=
  ⟨⟨cell_of_blk h.box 0, cell_of_blk h.box 1⟩, ⟨cell_of_blk h.r0 0, cell_of_blk h.r0 1, unfrozen_of_blk h.r0⟩, cell_of_blk h.r1 0, cell_of_blk h.r1 1, unfrozen_of_blk h.r1⟩
theorem tws_fin {w W : World} {bx : Nat} {t u : Ty} {s s' : Value} (h : Tws w bx W t s) (hu : TS W (fun z => w.heap.size + 3 ≤ z) u.args s') (hn : t.nodes ≤ 200) (hn2 : u.nodes ≤ 200) :
    DTy2 w (.returned (.tuple #[.agg #[.int .i64 t.kind, s], .agg #[.int .i64 u.kind, s']])) ((((W.setCell ⟨w.heap.size, 0, none⟩ (.int .i64 t.kind)).setCell ⟨w.heap.size, 1, none⟩ s).setCell ⟨w.heap.size + 1, 0, none⟩ (.int .i64 u.kind)).setCell ⟨w.heap.size + 1, 1, none⟩ s') := by
  have hst : Stays (fun z => w.heap.size + 3 ≤ z) W ((((W.setCell ⟨w.heap.size, 0, none⟩ (.int .i64 t.kind)).setCell ⟨w.heap.size, 1, none⟩ s).setCell ⟨w.heap.size + 1, 0, none⟩ (.int .i64 u.kind)).setCell ⟨w.heap.size + 1, 1, none⟩ s') :=
    (((setCell_stays _ _ _ _ _ (by omega)).trans (setCell_stays _ _ _ _ _ (by omega))).trans (setCell_stays _ _ _ _ _ (by omega))).trans (setCell_stays _ _ _ _ _ (by omega))
  refine ⟨_, _, t, u, rfl, hn, hn2, ⟨s, rfl, (h.ts.stays hst).mono (fun z hz _ => by omega)⟩, ⟨s', rfl, (hu.stays hst).mono (fun z hz _ => by omega)⟩, ?_⟩
  exact (((h.below.setCell (p := ⟨w.heap.size, 0, none⟩) (Nat.le_refl _) _).setCell (p := ⟨w.heap.size, 1, none⟩) (Nat.le_refl _) _).setCell (p := ⟨w.heap.size + 1, 0, none⟩) (Nat.le_succ _) _).setCell (p := ⟨w.heap.size + 1, 1, none⟩) (Nat.le_succ _) _
theorem two_start (w : World) : ∃ wl, (w.alloc (.cells #[.int .i64 0, .slice none 0 0] 26)).alloc (.cells #[.int .i64 0, .slice none 0 0] 26) = wl ∧ wl.heap.size = w.heap.size + 2 ∧ Below w.heap.size w wl ∧
    wl.heap[w.heap.size]? = some (.cells #[.int .i64 0, .slice none 0 0] 26 (0, 0)) ∧ wl.heap[w.heap.size + 1]? = some (.cells #[.int .i64 0, .slice none 0 0] 26 (0, 0)) := by
  refine ⟨_, rfl, by simp, (alloc_below w _).trans ((alloc_below _ _).mono (by simp)), al_blk (blk_new w _) _, ?_⟩
  have := blk_new (w.alloc (.cells #[.int .i64 0, .slice none 0 0] 26)) (.cells #[.int .i64 0, .slice none 0 0] 26)
  rwa [World.size_alloc] at this

end Go.Proofs.YtnciibngcaajgaaDoor
/- TmDrawE: The contract of the draw of two terms (gendrawe.py writes this text). -/
namespace Go.Proofs.YtnciibngcaajgaaDoor
open Go Go.RowKit

theorem kS9 {W : World} {a b i : Nat} {u v0 v1 v2 v3 v4 v5 v6 v7 v8 : Value} (h : W.cell? ⟨a, 0, none⟩ = some (v0) ∧ W.cell? ⟨a, 1, none⟩ = some (v1) ∧ W.cell? ⟨a, 2, none⟩ = some (v2) ∧ W.cell? ⟨a, 3, none⟩ = some (v3) ∧ W.cell? ⟨a, 4, none⟩ = some (v4) ∧ W.cell? ⟨a, 5, none⟩ = some (v5) ∧ W.cell? ⟨a, 6, none⟩ = some (v6) ∧ W.cell? ⟨a, 7, none⟩ = some (v7) ∧ W.cell? ⟨a, 8, none⟩ = some (v8)) (ha : a ≠ b) : (W.setCell ⟨b, i, none⟩ u).cell? ⟨a, 0, none⟩ = some (v0) ∧ (W.setCell ⟨b, i, none⟩ u).cell? ⟨a, 1, none⟩ = some (v1) ∧ (W.setCell ⟨b, i, none⟩ u).cell? ⟨a, 2, none⟩ = some (v2) ∧ (W.setCell ⟨b, i, none⟩ u).cell? ⟨a, 3, none⟩ = some (v3) ∧ (W.setCell ⟨b, i, none⟩ u).cell? ⟨a, 4, none⟩ = some (v4) ∧ (W.setCell ⟨b, i, none⟩ u).cell? ⟨a, 5, none⟩ = some (v5) ∧ (W.setCell ⟨b, i, none⟩ u).cell? ⟨a, 6, none⟩ = some (v6) ∧ (W.setCell ⟨b, i, none⟩ u).cell? ⟨a, 7, none⟩ = some (v7) ∧ (W.setCell ⟨b, i, none⟩ u).cell? ⟨a, 8, none⟩ = some (v8) := by
  obtain ⟨h0, h1, h2, h3, h4, h5, h6, h7, h8⟩ := h
  have k : ∀ {j : Nat} {v : Value}, W.cell? ⟨a, j, none⟩ = some v → (W.setCell ⟨b, i, none⟩ u).cell? ⟨a, j, none⟩ = some v := fun hp => (World.cell?_of_block (heap_setCell_other W ⟨b, i, none⟩ a u ha)).trans hp
  exact ⟨k h0, k h1, k h2, k h3, k h4, k h5, k h6, k h7, k h8⟩
/-- Two drawn terms. -/
def DTM2 (w : World) (e : Ending) (w' : World) : Prop := ∃ v x t u, e = .returned (.tuple #[v, x]) ∧ t.wt ≤ 400 ∧ u.wt ≤ 400 ∧ TM w' (fun z => w.heap.size ≤ z) t v ∧ TM w' (fun z => w.heap.size ≤ z) u x ∧ Below w.heap.size w w'
/-- While the second term is drawn: the two results' cells as they were, the box bx that holds the first, the cursor. -/
structure TwM (w : World) (bx : Nat) (W : World) (t : Tm) (tp : Option Addr) (tc : Nat) (rp : Option Addr) (rc : Nat) (p : Option Addr) (c : Nat) : Prop where
  r0 : W.heap[w.heap.size]? = some (.cells zero9 29 (0, 0))
  r1 : W.heap[w.heap.size + 1]? = some (.cells zero9 29 (0, 0))
  box : W.heap[bx]? = some (.cells (tmC t tp tc rp rc p c) 29 (0, 0))
  tm : TM' W (fun z => w.heap.size + 3 ≤ z) t tp tc rp rc p c
  cur : Cur W (w.heap.size + 2)
  below : Below w.heap.size w W
  lt : w.heap.size + 3 ≤ bx
section
variable {w W W' : World} {bx : Nat} {t u : Tm} {tp rp p : Option Addr} {tc rc c : Nat} {tp4 rp4 p4 : Option Addr} {tc4 rc4 c4 : Nat}
theorem TwM.bxlt (h : TwM w bx W t tp tc rp rc p c) : bx < W.heap.size := (Array.getElem?_eq_some_iff.1 h.box).1
theorem TwM.step (h : TwM w bx W t tp tc rp rc p c) (hc : Cur W' (w.heap.size + 2)) (hg : W.grownBy W' (some (w.heap.size + 2))) : TwM w bx W' t tp tc rp rc p c := by
  have hl := h.lt
  have hx := h.bxlt
  have key : ∀ k, k < W.heap.size → k ≠ w.heap.size + 2 → W'.heap[k]? = W.heap[k]? := fun k hk hne => hg.block k hk (fun e => hne (Option.some.inj e))
  exact ⟨(key _ (by omega) (by omega)).trans h.r0, (key _ (by omega) (by omega)).trans h.r1, (key _ hx (by omega)).trans h.box, h.tm.stays ⟨hg.size, fun z hz hl => key z hl (by omega)⟩, hc, h.below.grown hg h.below.size (fun k hk => by cases hk; omega), hl⟩
theorem TwM.keep (h : TwM w bx W t tp tc rp rc p c) (hb : Below W.heap.size W W') : TwM w bx W' t tp tc rp rc p c := by
  have hl := h.lt
  have hx := h.bxlt
  exact ⟨(hb.block _ (by omega)).trans h.r0, (hb.block _ (by omega)).trans h.r1, (hb.block _ hx).trans h.box, h.tm.stays (.of_below hb), h.cur.below hb, h.below.trans (hb.mono h.below.size), hl⟩
theorem TwM.b9 (h : TwM w bx W t tp tc rp rc p c) : W.cell? ⟨bx, 0, none⟩ = some (.int .i64 t.kind) ∧ W.cell? ⟨bx, 1, none⟩ = some (.string t.name) ∧ W.cell? ⟨bx, 2, none⟩ = some (.string t.other) ∧ W.cell? ⟨bx, 3, none⟩ = some (.int .i64 t.n) ∧ W.cell? ⟨bx, 4, none⟩ = some (.int .i64 t.ty.kind) ∧ W.cell? ⟨bx, 5, none⟩ = some (.slice tp t.ty.args.length tc) ∧ W.cell? ⟨bx, 6, none⟩ = some (.int .i64 t.res.kind) ∧ W.cell? ⟨bx, 7, none⟩ = some (.slice rp t.res.args.length rc) ∧ W.cell? ⟨bx, 8, none⟩ = some (.slice p t.args.length c) :=
  ⟨cell_of_blk h.box 0, cell_of_blk h.box 1, cell_of_blk h.box 2, cell_of_blk h.box 3, cell_of_blk h.box 4, cell_of_blk h.box 5, cell_of_blk h.box 6, cell_of_blk h.box 7, cell_of_blk h.box 8⟩
theorem TwM.f0 (h : TwM w bx W t tp tc rp rc p c) : (W.cell? ⟨w.heap.size, 0, none⟩ = some (.int .i64 0) ∧ W.cell? ⟨w.heap.size, 1, none⟩ = some (.string ⟨#[]⟩) ∧ W.cell? ⟨w.heap.size, 2, none⟩ = some (.string ⟨#[]⟩) ∧ W.cell? ⟨w.heap.size, 3, none⟩ = some (.int .i64 0) ∧ W.cell? ⟨w.heap.size, 4, none⟩ = some (.int .i64 0) ∧ W.cell? ⟨w.heap.size, 5, none⟩ = some (.slice none 0 0) ∧ W.cell? ⟨w.heap.size, 6, none⟩ = some (.int .i64 0) ∧ W.cell? ⟨w.heap.size, 7, none⟩ = some (.slice none 0 0) ∧ W.cell? ⟨w.heap.size, 8, none⟩ = some (.slice none 0 0)) ∧ ∀ i, W.frozen? ⟨w.heap.size, i, none⟩ = false :=
  ⟨⟨cell_of_blk h.r0 0, cell_of_blk h.r0 1, cell_of_blk h.r0 2, cell_of_blk h.r0 3, cell_of_blk h.r0 4, cell_of_blk h.r0 5, cell_of_blk h.r0 6, cell_of_blk h.r0 7, cell_of_blk h.r0 8⟩, unfrozen_of_blk h.r0⟩
theorem TwM.f1 (h : TwM w bx W t tp tc rp rc p c) : (W.cell? ⟨w.heap.size + 1, 0, none⟩ = some (.int .i64 0) ∧ W.cell? ⟨w.heap.size + 1, 1, none⟩ = some (.string ⟨#[]⟩) ∧ W.cell? ⟨w.heap.size + 1, 2, none⟩ = some (.string ⟨#[]⟩) ∧ W.cell? ⟨w.heap.size + 1, 3, none⟩ = some (.int .i64 0) ∧ W.cell? ⟨w.heap.size + 1, 4, none⟩ = some (.int .i64 0) ∧ W.cell? ⟨w.heap.size + 1, 5, none⟩ = some (.slice none 0 0) ∧ W.cell? ⟨w.heap.size + 1, 6, none⟩ = some (.int .i64 0) ∧ W.cell? ⟨w.heap.size + 1, 7, none⟩ = some (.slice none 0 0) ∧ W.cell? ⟨w.heap.size + 1, 8, none⟩ = some (.slice none 0 0)) ∧ ∀ i, W.frozen? ⟨w.heap.size + 1, i, none⟩ = false :=
  ⟨⟨cell_of_blk h.r1 0, cell_of_blk h.r1 1, cell_of_blk h.r1 2, cell_of_blk h.r1 3, cell_of_blk h.r1 4, cell_of_blk h.r1 5, cell_of_blk h.r1 6, cell_of_blk h.r1 7, cell_of_blk h.r1 8⟩, unfrozen_of_blk h.r1⟩
theorem twm_fin (h : TwM w bx W t tp tc rp rc p c) (hu : TM' W (fun z => w.heap.size + 3 ≤ z) u tp4 tc4 rp4 rc4 p4 c4) (hn : t.wt ≤ 400) (hn2 : u.wt ≤ 400) :
    DTM2 w (.returned (.tuple #[tmV t tp tc rp rc p c, tmV u tp4 tc4 rp4 rc4 p4 c4])) (setN (setN W w.heap.size 0 [.int .i64 t.kind, .string t.name, .string t.other, .int .i64 t.n, .int .i64 t.ty.kind, .slice tp t.ty.args.length tc, .int .i64 t.res.kind, .slice rp t.res.args.length rc, .slice p t.args.length c]) (w.heap.size + 1) 0 [.int .i64 u.kind, .string u.name, .string u.other, .int .i64 u.n, .int .i64 u.ty.kind, .slice tp4 u.ty.args.length tc4, .int .i64 u.res.kind, .slice rp4 u.res.args.length rc4, .slice p4 u.args.length c4]) := by
  have hst := (setN_stays [.int .i64 t.kind, .string t.name, .string t.other, .int .i64 t.n, .int .i64 t.ty.kind, .slice tp t.ty.args.length tc, .int .i64 t.res.kind, .slice rp t.res.args.length rc, .slice p t.args.length c] (fun z => w.heap.size + 3 ≤ z) W w.heap.size 0 (by omega)).trans (setN_stays [.int .i64 u.kind, .string u.name, .string u.other, .int .i64 u.n, .int .i64 u.ty.kind, .slice tp4 u.ty.args.length tc4, .int .i64 u.res.kind, .slice rp4 u.res.args.length rc4, .slice p4 u.args.length c4] (fun z => w.heap.size + 3 ≤ z) (setN W w.heap.size 0 [.int .i64 t.kind, .string t.name, .string t.other, .int .i64 t.n, .int .i64 t.ty.kind, .slice tp t.ty.args.length tc, .int .i64 t.res.kind, .slice rp t.res.args.length rc, .slice p t.args.length c]) (w.heap.size + 1) 0 (by omega))
  have hb := (h.below.trans (setN_below [.int .i64 t.kind, .string t.name, .string t.other, .int .i64 t.n, .int .i64 t.ty.kind, .slice tp t.ty.args.length tc, .int .i64 t.res.kind, .slice rp t.res.args.length rc, .slice p t.args.length c] w.heap.size W w.heap.size 0 (Nat.le_refl _))).trans (setN_below [.int .i64 u.kind, .string u.name, .string u.other, .int .i64 u.n, .int .i64 u.ty.kind, .slice tp4 u.ty.args.length tc4, .int .i64 u.res.kind, .slice rp4 u.res.args.length rc4, .slice p4 u.args.length c4] w.heap.size (setN W w.heap.size 0 [.int .i64 t.kind, .string t.name, .string t.other, .int .i64 t.n, .int .i64 t.ty.kind, .slice tp t.ty.args.length tc, .int .i64 t.res.kind, .slice rp t.res.args.length rc, .slice p t.args.length c]) (w.heap.size + 1) 0 (Nat.le_succ _))
  exact ⟨_, _, t, u, rfl, hn, hn2, ⟨tp, tc, rp, rc, p, c, rfl, (h.tm.stays hst).mono (fun z hz _ => by omega)⟩, ⟨tp4, tc4, rp4, rc4, p4, c4, rfl, (hu.stays hst).mono (fun z hz _ => by omega)⟩, hb⟩
end

set_option maxRecDepth 100000 in
set_option maxHeartbeats 4000000 in
theorem drawEqualM_any (v : Value) (w : World) (hv : Bytes w v) (hlen : sliceLen v ≤ 1048576) : Calls Tryd.prog 10 #[v] w (DTM2 w) := by
  obtain ⟨wl, hwl, hls, hlb, hl0, hl1⟩ := box_new2 w zero9 zero9 29 29
  have HN := Lib.hid (new_any v wl (hv.below hlb) hlen)
  rw [← hwl] at HN
  have HWL := Lib.hid (And.intro hwl (And.intro hls (And.intro hlb (And.intro hl0 hl1))))
  clear hv hlen hwl hls hlb hl0 hl1
  go_enter Tryd.func10, Tryd.ntmps10
  go_wp2_with fail
  refine HN.out.mono ?_
  rintro e w1 ⟨rfl, hc1, hb1, hs1⟩
  obtain ⟨hwl, hls, hlb, hl0, hl1⟩ := HWL.out
  rw [hwl] at hc1 hb1 hs1 ⊢
  rw [hls] at hc1 hb1 hs1 ⊢
  have q0 := (hb1.block _ (by omega)).trans hl0
  have q1 := (hb1.block _ (by omega)).trans hl1
  have HQ := Lib.hid (And.intro q0 (And.intro q1 (hlb.trans (hb1.mono (by omega)))))
  have HC1 := Lib.hid hc1
  have HS1 := Lib.hid hs1
  clear hc1 hb1 hs1 hwl hls hlb hl0 hl1 q0 q1 HN HWL
  go_wp2_with fail
  refine (bentM_any _ w1 HC1.out).mono ?_
  rintro e w2 ⟨t, tp, tc, rp, rc, p, c, xs, rfl, hn, hN, hc2, hg2⟩
  have ht2 : TwM w w2.heap.size (w2.alloc (.cells (tmC t tp tc rp rc p c) 29)) t tp tc rp rc p c := by
    obtain ⟨q0, q1, hlb⟩ := HQ.out
    have hs1 := HS1.out
    have hsz := hg2.size
    have key : ∀ k, k < w1.heap.size → k ≠ w.heap.size + 2 → w2.heap[k]? = w1.heap[k]? := fun k hk hne => hg2.block k hk (fun e => hne (Option.some.inj e))
    refine ⟨al_blk ((key _ (by omega) (by omega)).trans q0) _, al_blk ((key _ (by omega) (by omega)).trans q1) _, blk_new w2 _, (hN.tm.mono (fun z hz _ => by have : w1.heap.size ≤ z := hz; show _ ≤ z; omega)).stays (.of_below (al_below w2 _)), cur_alloc hc2 _, ?_, by omega⟩
    exact (hlb.grown hg2 (by omega) (fun k hk => by cases hk; omega)).alloc (by omega) _
  have HT2 := Lib.hid ht2
  have HNT := Lib.hid hn
  clear hN hc2 hg2 ht2 hn
  go_wp2_with fail
  refine (once_any _ 2 _ (by decide) (by decide) HT2.out.cur).mono ?_
  rintro e w3 ⟨x, rfl, hc3, hg3⟩
  have ht3 := HT2.out.step hc3 hg3
  have HT3 := Lib.hid ht3
  obtain ⟨g0, g1, g2, g3, g4, g5, g6, g7, g8⟩ := ht3.b9
  have HNE0 := Lib.hid (show w2.heap.size ≠ w.heap.size by have := ht3.lt; omega)
  have HNE1 := Lib.hid (show w2.heap.size ≠ w.heap.size + 1 by have := ht3.lt; omega)
  have HS3 : Hid (w3.drew.cell? ⟨w2.heap.size, 0, none⟩ = some (.int .i64 t.kind) ∧ w3.drew.cell? ⟨w2.heap.size, 1, none⟩ = some (.string t.name) ∧ w3.drew.cell? ⟨w2.heap.size, 2, none⟩ = some (.string t.other) ∧ w3.drew.cell? ⟨w2.heap.size, 3, none⟩ = some (.int .i64 t.n) ∧ w3.drew.cell? ⟨w2.heap.size, 4, none⟩ = some (.int .i64 t.ty.kind) ∧ w3.drew.cell? ⟨w2.heap.size, 5, none⟩ = some (.slice tp t.ty.args.length tc) ∧ w3.drew.cell? ⟨w2.heap.size, 6, none⟩ = some (.int .i64 t.res.kind) ∧ w3.drew.cell? ⟨w2.heap.size, 7, none⟩ = some (.slice rp t.res.args.length rc) ∧ w3.drew.cell? ⟨w2.heap.size, 8, none⟩ = some (.slice p t.args.length c)) := Lib.hid (ht3.keep (Below.refl _ w3).drew).b9
  clear hc3 hg3 ht3
  have HT4 := Lib.hid (HT3.out.keep (Below.refl _ w3).drew)
  cases x
  · go_wp2_with fail
    go_region_held3 (fun w' => w'.cell? ⟨w2.heap.size, 0, none⟩ = some (.int .i64 t.kind) ∧ w'.cell? ⟨w2.heap.size, 1, none⟩ = some (.string t.name) ∧ w'.cell? ⟨w2.heap.size, 2, none⟩ = some (.string t.other) ∧ w'.cell? ⟨w2.heap.size, 3, none⟩ = some (.int .i64 t.n) ∧ w'.cell? ⟨w2.heap.size, 4, none⟩ = some (.int .i64 t.ty.kind) ∧ w'.cell? ⟨w2.heap.size, 5, none⟩ = some (.slice tp t.ty.args.length tc) ∧ w'.cell? ⟨w2.heap.size, 6, none⟩ = some (.int .i64 t.res.kind) ∧ w'.cell? ⟨w2.heap.size, 7, none⟩ = some (.slice rp t.res.args.length rc) ∧ w'.cell? ⟨w2.heap.size, 8, none⟩ = some (.slice p t.args.length c))
      (first
        | with_reducible exact HS3.out
        | with_reducible exact HS4.out
        | with_reducible exact (kS9 (kS9 (kS9 (kS9 (kS9 (kS9 (kS9 (kS9 (kS9 HS4.out HNE0.out) HNE0.out) HNE0.out) HNE0.out) HNE0.out) HNE0.out) HNE0.out) HNE0.out) HNE0.out)
        | with_reducible exact (kS9 (kS9 (kS9 (kS9 (kS9 (kS9 (kS9 (kS9 (kS9 (kS9 (kS9 (kS9 (kS9 (kS9 (kS9 (kS9 (kS9 (kS9 HS4.out HNE0.out) HNE0.out) HNE0.out) HNE0.out) HNE0.out) HNE0.out) HNE0.out) HNE0.out) HNE0.out) HNE1.out) HNE1.out) HNE1.out) HNE1.out) HNE1.out) HNE1.out) HNE1.out) HNE1.out) HNE1.out)
        | (go_keep; done))
      (first
        | (go_at_call 24; refine (bentM_any _ _ HT4.out.cur).mono ?_; rintro e w4 ⟨u, tp4, tc4, rp4, rc4, p4, c4, xs4, rfl, hn2, hN4, hc4, hg4⟩; have ht5 := HT4.out.step hc4 hg4; have HT5 := Lib.hid ht5; have HS4 : Hid (w4.cell? ⟨w2.heap.size, 0, none⟩ = some (.int .i64 t.kind) ∧ w4.cell? ⟨w2.heap.size, 1, none⟩ = some (.string t.name) ∧ w4.cell? ⟨w2.heap.size, 2, none⟩ = some (.string t.other) ∧ w4.cell? ⟨w2.heap.size, 3, none⟩ = some (.int .i64 t.n) ∧ w4.cell? ⟨w2.heap.size, 4, none⟩ = some (.int .i64 t.ty.kind) ∧ w4.cell? ⟨w2.heap.size, 5, none⟩ = some (.slice tp t.ty.args.length tc) ∧ w4.cell? ⟨w2.heap.size, 6, none⟩ = some (.int .i64 t.res.kind) ∧ w4.cell? ⟨w2.heap.size, 7, none⟩ = some (.slice rp t.res.args.length rc) ∧ w4.cell? ⟨w2.heap.size, 8, none⟩ = some (.slice p t.args.length c)) := Lib.hid ht5.b9; have HU := Lib.hid hN4.tm; have HN2 := Lib.hid hn2; obtain ⟨⟨k0, k1, k2, k3, k4, k5, k6, k7, k8⟩, kz⟩ := ht5.f0; obtain ⟨⟨l0, l1, l2, l3, l4, l5, l6, l7, l8⟩, lz⟩ := ht5.f1; clear ht5 hc4 hg4 hN4 hn2))
    go_wp2_with fail
    refine bodyPost_ret (v := .tuple #[tmV t tp tc rp rc p c, tmV u tp4 tc4 rp4 rc4 p4 c4]) ?_ rfl ?_
    · rw [results_cell2 rfl]
      go_simp
      all_goals (repeat' apply And.intro) <;> rfl
    · have := twm_fin HT5.out (HU.out.mono (fun z hz _ => by have : w3.heap.size ≤ z := hz; have := HT3.out.lt; have := HT3.out.bxlt; show _ ≤ z; omega)) HNT.out HN2.out
      rw [setN9, setN9] at this
      exact this
  · go_wp2_with fail
    go_region_held3 (fun w' => w'.cell? ⟨w2.heap.size, 0, none⟩ = some (.int .i64 t.kind) ∧ w'.cell? ⟨w2.heap.size, 1, none⟩ = some (.string t.name) ∧ w'.cell? ⟨w2.heap.size, 2, none⟩ = some (.string t.other) ∧ w'.cell? ⟨w2.heap.size, 3, none⟩ = some (.int .i64 t.n) ∧ w'.cell? ⟨w2.heap.size, 4, none⟩ = some (.int .i64 t.ty.kind) ∧ w'.cell? ⟨w2.heap.size, 5, none⟩ = some (.slice tp t.ty.args.length tc) ∧ w'.cell? ⟨w2.heap.size, 6, none⟩ = some (.int .i64 t.res.kind) ∧ w'.cell? ⟨w2.heap.size, 7, none⟩ = some (.slice rp t.res.args.length rc) ∧ w'.cell? ⟨w2.heap.size, 8, none⟩ = some (.slice p t.args.length c))
      (first
        | with_reducible exact HS3.out
        | with_reducible exact HS4.out
        | with_reducible exact (kS9 (kS9 (kS9 (kS9 (kS9 (kS9 (kS9 (kS9 (kS9 HS4.out HNE0.out) HNE0.out) HNE0.out) HNE0.out) HNE0.out) HNE0.out) HNE0.out) HNE0.out) HNE0.out)
        | with_reducible exact (kS9 (kS9 (kS9 (kS9 (kS9 (kS9 (kS9 (kS9 (kS9 (kS9 (kS9 (kS9 (kS9 (kS9 (kS9 (kS9 (kS9 (kS9 HS4.out HNE0.out) HNE0.out) HNE0.out) HNE0.out) HNE0.out) HNE0.out) HNE0.out) HNE0.out) HNE0.out) HNE1.out) HNE1.out) HNE1.out) HNE1.out) HNE1.out) HNE1.out) HNE1.out) HNE1.out) HNE1.out)
        | (go_keep; done))
      (first
        | (go_at_call 30; refine (copyM_any _ _ (Nat.le_refl _) HT4.out.tm (by have := HNT.out; omega)).mono ?_; rintro e w4 ⟨tp4, tc4, rp4, rc4, p4, c4, xs4, rfl, hN4, hb4⟩; have ht5 := HT4.out.keep hb4; have HT5 := Lib.hid ht5; have HS4 : Hid (w4.cell? ⟨w2.heap.size, 0, none⟩ = some (.int .i64 t.kind) ∧ w4.cell? ⟨w2.heap.size, 1, none⟩ = some (.string t.name) ∧ w4.cell? ⟨w2.heap.size, 2, none⟩ = some (.string t.other) ∧ w4.cell? ⟨w2.heap.size, 3, none⟩ = some (.int .i64 t.n) ∧ w4.cell? ⟨w2.heap.size, 4, none⟩ = some (.int .i64 t.ty.kind) ∧ w4.cell? ⟨w2.heap.size, 5, none⟩ = some (.slice tp t.ty.args.length tc) ∧ w4.cell? ⟨w2.heap.size, 6, none⟩ = some (.int .i64 t.res.kind) ∧ w4.cell? ⟨w2.heap.size, 7, none⟩ = some (.slice rp t.res.args.length rc) ∧ w4.cell? ⟨w2.heap.size, 8, none⟩ = some (.slice p t.args.length c)) := Lib.hid ht5.b9; have HU := Lib.hid hN4.tm; obtain ⟨⟨k0, k1, k2, k3, k4, k5, k6, k7, k8⟩, kz⟩ := ht5.f0; obtain ⟨⟨l0, l1, l2, l3, l4, l5, l6, l7, l8⟩, lz⟩ := ht5.f1; clear ht5 hb4 hN4))
    go_wp2_with fail
    refine bodyPost_ret (v := .tuple #[tmV t tp tc rp rc p c, tmV t tp4 tc4 rp4 rc4 p4 c4]) ?_ rfl ?_
    · rw [results_cell2 rfl]
      go_simp
      all_goals (repeat' apply And.intro) <;> rfl
    · have := twm_fin HT5.out (HU.out.mono (fun z hz _ => by have : w3.heap.size ≤ z := hz; have := HT3.out.lt; have := HT3.out.bxlt; show _ ≤ z; omega)) HNT.out HNT.out
      rw [setN9, setN9] at this
      exact this
end Go.Proofs.YtnciibngcaajgaaDoor
/- TmDrawOp: The contract of the draws' DrawOpArity. -/
namespace Go.Proofs.YtnciibngcaajgaaDoor
open Go Go.RowKit

def DrawsStr (w : World) (e : Ending) (w' : World) : Prop := ∃ s : ByteArray, e = .returned (.string s) ∧ s.size ≤ 2 ∧ Below w.heap.size w w'
set_option maxRecDepth 100000 in
set_option maxHeartbeats 1000000 in
theorem drawOp_any (v : Value) (w : World) (hv : Bytes w v) (hlen : sliceLen v ≤ 1048576) : Calls Tryd.prog 11 #[v] w (DrawsStr w) := by
  have HN := Lib.hid (new_any v w hv hlen)
  clear hv hlen
  go_enter Tryd.func11, Tryd.ntmps11
  go_wp2_with fail
  refine HN.out.mono ?_
  rintro e w1 ⟨rfl, hc1, hb1, hs1⟩
  have HP := Lib.hid (pickS_litG [⟨#[43]⟩, ⟨#[45]⟩, ⟨#[42]⟩, ⟨#[61]⟩, ⟨#[60]⟩, ⟨#[38]⟩, ⟨#[124]⟩, ⟨#[33]⟩, ⟨#[]⟩, ⟨#[120]⟩, ⟨#[43, 43]⟩] 11 w.heap.size w1 #[.string ⟨#[43]⟩, .string ⟨#[45]⟩, .string ⟨#[42]⟩, .string ⟨#[61]⟩, .string ⟨#[60]⟩, .string ⟨#[38]⟩, .string ⟨#[124]⟩, .string ⟨#[33]⟩, .string ⟨#[]⟩, .string ⟨#[120]⟩, .string ⟨#[43, 43]⟩] rfl (by decide) (by decide) rfl hc1)
  have HB1 := Lib.hid hb1
  have HS1 := Lib.hid hs1
  clear hc1 hb1 hs1
  go_wp2_with fail
  refine HP.out.mono ?_
  rintro e w2 ⟨s, hs, rfl, hc2, hg2⟩
  have HS := Lib.hid (show s.size ≤ 2 by simp at hs; rcases hs with rfl | rfl | rfl | rfl | rfl | rfl | rfl | rfl | rfl | rfl | rfl <;> decide)
  have HB2 := Lib.hid (HB1.out.grown hg2 (by have := HS1.out; omega) (fun k hk => by cases hk; exact Nat.le_refl _))
  clear hs hc2 hg2
  go_wp2_with fail
  go_ret
  exact ⟨s, rfl, HS.out, HB2.out⟩
end Go.Proofs.YtnciibngcaajgaaDoor
/- KA: The table of the program that holds the number of parts by kind. -/
namespace Go.Proofs.YtnciibngcaajgaaDoor
open Go Go.RowKit

theorem gKA : Tryd.prog.globalNamed "loop.example/g00589/impl.kindArity" = some 0 := by kernel_rfl
def kaTab : List Int := [0, 0, 0, 0, 0, 3, 1, 2, 2, 1, 1, 1, 1, 1]
/-- The table reads as the program's text lays it. -/
def KA (w : World) : Prop := Lib.TabIs Tryd.prog w "loop.example/g00589/impl.kindArity" .i64 kaTab ∧ 0 < w.heap.size
theorem KA.below {w w' : World} (h : KA w) (hb : Below w.heap.size w w') : KA w' := ⟨var?_below hb gKA h.2 h.1, Nat.lt_of_lt_of_le h.2 hb.size⟩
theorem KA.cell {w : World} (h : KA w) (i : Nat) : w.cell? ⟨0, i, none⟩ = ((kaTab.map fun z => Value.int .i64 z).toArray)[i]? := World.var?_cell gKA h.1 i

/-- The node is of one of the forms, whatever its parts are. -/
def Tm.NodeOk (t : Tm) : Prop := t.FieldsOk ∧ (t.args.length : Int) = t.arity
theorem ok_ex : ∃ ok : Tm → Bool, ∀ x, ok x = true ↔ x.NodeOk := ⟨fun x => @decide x.NodeOk (Classical.propDecidable _), fun _ => @decide_eq_true_iff _ (Classical.propDecidable _)⟩
end Go.Proofs.YtnciibngcaajgaaDoor
/- TmValid: The contract of the model's IsValidTerm. -/
namespace Go.Proofs.YtnciibngcaajgaaDoor
open Go Go.RowKit

def Tm.Valid (t : Tm) : Prop := t.nodes ≤ 80 ∧ t.depth ≤ 20 ∧ t.IsT

set_option maxRecDepth 100000 in
set_option maxHeartbeats 2000000 in
theorem validM_any {C : Nat → Prop} {t : Tm} {v : Value} {w : World} (h : TM w C t v) (hn : t.wt ≤ 1048576) :
    Calls Tryd.prog 13 #[v] w (Tells t.Valid w) := by
  obtain ⟨tp, tc, rp, rc, p, c, rfl, hT⟩ := h
  have HT := Lib.hid hT
  have HX := Lib.hid (Bx9.new w t tp tc rp rc p c 29)
  have HB := Lib.hid (al_below w (.cells (tmC t tp tc rp rc p c) 29))
  have HN := Lib.hid hn
  have hdn := t.depth_nodes
  have hnw := t.nodes_wt
  clear hT
  go_enter Tryd.func13, Tryd.ntmps13
  go_wp2_with fail
  refine (leftM_any _ _ 80 (Nat.le_refl _) (HT.out.stays (.of_below HB.out)) HN.out (by omega) (by omega)).mono ?_
  rintro e w1 ⟨r, hr, rfl, hb1⟩
  have hrg := hr.range (by omega)
  have HR := Lib.hid hr
  have HB1 := Lib.hid (HB.out.trans (hb1.mono HB.out.size))
  have HX1 := Lib.hid (HX.out.keep hb1)
  obtain ⟨g0, g1, g2, g3, g4, g5, g6, g7, g8⟩ := HX.out.keep hb1
  clear hb1 hr
  by_cases h0 : 0 ≤ r
  · have HZ := Lib.hid (show t.nodes ≤ 80 by have := HR.out; unfold LeftEnds at this; omega)
    have hd0 : decide (0 ≤ r) = true := decide_eq_true h0
    go_wp2_with fail
    refine (depthM_any _ _ (Nat.le_refl _) (HT.out.stays (.of_below HB1.out)) HN.out).mono ?_
    rintro e w2 ⟨d, rfl, rfl, hb2⟩
    have HB2 := Lib.hid (HB1.out.trans (hb2.mono HB1.out.size))
    clear g0 g1 g2 g3 g4 g5 g6 g7 g8
    obtain ⟨g0, g1, g2, g3, g4, g5, g6, g7, g8⟩ := HX1.out.keep hb2
    clear hb2
    by_cases h2 : t.depth ≤ 20
    · have hd2 : decide ((t.depth : Int) ≤ 20) = true := decide_eq_true (by omega)
      go_wp2_with fail
      refine (isTM_any _ _ (Nat.le_refl _) (HT.out.stays (.of_below HB2.out)) HN.out).mono ?_
      rintro e w3 ⟨b, hb, rfl, hb3⟩
      have HB3 := Lib.hid (HB2.out.trans (hb3.mono HB2.out.size))
      have HI := Lib.hid hb
      clear hb hb3
      go_wp2_with fail
      go_ret
      exact ⟨_, HI.out.trans ⟨fun h => ⟨HZ.out, h2, h⟩, fun h => h.2.2⟩, rfl, HB3.out⟩
    · have hd2 : decide ((t.depth : Int) ≤ 20) = false := decide_eq_false (by omega)
      go_wp2_with fail
      go_ret
      exact ⟨_, lit_f (fun h => h2 h.2.1), rfl, HB2.out⟩
  · have HZ := Lib.hid (show ¬ t.nodes ≤ 80 by have := HR.out; unfold LeftEnds at this; omega)
    have hd0 : decide (0 ≤ r) = false := decide_eq_false h0
    go_wp2_with fail
    go_ret
    exact ⟨_, lit_f (fun h => HZ.out h.1), rfl, HB1.out⟩
end Go.Proofs.YtnciibngcaajgaaDoor
