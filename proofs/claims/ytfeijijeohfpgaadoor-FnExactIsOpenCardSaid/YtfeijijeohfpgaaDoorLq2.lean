/-
  Several texts of the proof in one (each says below what it holds): TmSz OpenM StrEq TmEq TmCopy TmCopy2 RangeT SpecTy SpecTy2 SpecTy3 SpecEq Kind Kind2 Aid TmSpec.
-/
import Derived.Test.YtfeijijeohfpgaaDoorLq1
import Derived.Test.YtfeijijeohfpgaaDoorProg
import Derived.Laws.Strings
import Derived.RangeFuncKeeps
import Derived.RangeFuncLeaves
import Derived.RangeFuncNested
import Derived.RangeFuncBound
import Derived.RangeFuncCalls
import Derived.Shelf.Abstract
import Derived.IntWalk
import Derived.Shelf.RegionOpen
import Derived.WalkKit
import Derived.TacticsInMore
import Derived.LoopNIn
import Derived.LoopIn
import Derived.Sort.LoopGhostIn
import Derived.Deep.LoopGhost
import Derived.Deep.CutRange
import Derived.Deep.RegionHeldLaw
set_option linter.unusedVariables false
set_option linter.unusedSimpArgs false
namespace Go.Proofs.YtfeijijeohfpgaaDoor
open Go Go.RowKit

mutual
def Tm.fit : Tm → Prop
  | .mk _ a b _ _ _ ts => a.size ≤ 9223372036854775807 ∧ b.size ≤ 9223372036854775807 ∧ fitS ts
def fitS : List Tm → Prop
  | [] => True
  | t :: ts => t.fit ∧ fitS ts
end
theorem Tm.fit_eq (t : Tm) : t.fit ↔ t.name.size ≤ 9223372036854775807 ∧ t.other.size ≤ 9223372036854775807 ∧ fitS t.args := by cases t; simp [Tm.fit, Tm.name, Tm.other, Tm.args]
theorem fitS_at : ∀ (ts : List Tm) (j : Nat) (hj : j < ts.length), fitS ts → ts[j].fit
  | t :: ts, 0, _, h => h.1
  | t :: ts, j + 1, hj, h => fitS_at ts j (by simpa using hj) h.2
theorem fitS_of : ∀ (ts : List Tm), (∀ (j : Nat) (hj : j < ts.length), ts[j].fit) → fitS ts
  | [], _ => trivial
  | t :: ts, h => ⟨h 0 (by simp), fitS_of ts (fun j hj => h (j + 1) (by simpa using hj))⟩
structure Bx9 (w : World) (b : Nat) (t : Tm) (tp : Option Addr) (tc : Nat) (rp : Option Addr) (rc : Nat) (p : Option Addr) (c : Nat) : Prop where
  kind : w.cell? ⟨b, 0, none⟩ = some (.int .i64 t.kind)
  name : w.cell? ⟨b, 1, none⟩ = some (.string t.name)
  other : w.cell? ⟨b, 2, none⟩ = some (.string t.other)
  n : w.cell? ⟨b, 3, none⟩ = some (.int .i64 t.n)
  tk : w.cell? ⟨b, 4, none⟩ = some (.int .i64 t.ty.kind)
  ta : w.cell? ⟨b, 5, none⟩ = some (.slice tp t.ty.args.length tc)
  rk : w.cell? ⟨b, 6, none⟩ = some (.int .i64 t.res.kind)
  ra : w.cell? ⟨b, 7, none⟩ = some (.slice rp t.res.args.length rc)
  args : w.cell? ⟨b, 8, none⟩ = some (.slice p t.args.length c)
abbrev tmC (t : Tm) (tp : Option Addr) (tc : Nat) (rp : Option Addr) (rc : Nat) (p : Option Addr) (c : Nat) : Array Value :=
  #[.int .i64 t.kind, .string t.name, .string t.other, .int .i64 t.n, .int .i64 t.ty.kind, .slice tp t.ty.args.length tc, .int .i64 t.res.kind, .slice rp t.res.args.length rc, .slice p t.args.length c]
theorem Bx9.of {w : World} {b : Nat} {t : Tm} {tp rp p : Option Addr} {tc rc c : Nat} {T : TypeId} (h : w.heap[b]? = some (.cells (tmC t tp tc rp rc p c) T (0, 0))) : Bx9 w b t tp tc rp rc p c := by
  have k : ∀ i, w.cell? ⟨b, i, none⟩ = (tmC t tp tc rp rc p c)[i]? := fun i => by simp [World.cell?, h]
  exact ⟨k 0, k 1, k 2, k 3, k 4, k 5, k 6, k 7, k 8⟩
theorem Bx9.lt {w : World} {b : Nat} {t : Tm} {tp rp p : Option Addr} {tc rc c : Nat} (h : Bx9 w b t tp tc rp rc p c) : b < w.heap.size := World.block_lt_of_cell? w _ h.kind
theorem Bx9.at {w w' : World} {b : Nat} {t : Tm} {tp rp p : Option Addr} {tc rc c : Nat} (h : Bx9 w b t tp tc rp rc p c) (hs : w'.heap[b]? = w.heap[b]?) : Bx9 w' b t tp tc rp rc p c := by
  have k : ∀ i, w'.cell? ⟨b, i, none⟩ = w.cell? ⟨b, i, none⟩ := fun i => World.cell?_of_block (a := ⟨b, i, none⟩) hs
  exact ⟨(k 0).trans h.kind, (k 1).trans h.name, (k 2).trans h.other, (k 3).trans h.n, (k 4).trans h.tk, (k 5).trans h.ta, (k 6).trans h.rk, (k 7).trans h.ra, (k 8).trans h.args⟩
theorem Bx9.keep {w w' : World} {b : Nat} {t : Tm} {tp rp p : Option Addr} {tc rc c : Nat} (h : Bx9 w b t tp tc rp rc p c) (hb : Below w.heap.size w w') : Bx9 w' b t tp tc rp rc p c := h.at (hb.block b h.lt)
theorem Bx9.new (w : World) (t : Tm) (tp : Option Addr) (tc : Nat) (rp : Option Addr) (rc : Nat) (p : Option Addr) (c : Nat) (T : TypeId) : Bx9 (w.alloc (.cells (tmC t tp tc rp rc p c) T)) w.heap.size t tp tc rp rc p c :=
  Bx9.of (T := T) (by show (w.heap.push _)[w.heap.size]? = _; simp)
set_option maxRecDepth 100000 in
set_option maxHeartbeats 2000000 in
theorem szM_of {C : Nat → Prop} {t : Tm} {tp rp p : Option Addr} {tc rc c : Nat} {w : World} (left : Int) (h0 : 0 ≤ left) (hl : left ≤ 1048576) (hT : TM' w C t tp tc rp rc p c) (hf : t.fit)
    (h : ∀ (w' : World) (l : Int), Below w.heap.size w w' → 0 ≤ l → l ≤ left → Calls Tryd.prog 30 #[.slice p t.args.length c, .int .i64 l] w' (IntRet (SzEnds l (wtS t.args)) w')) :
    Calls Tryd.prog 10 #[tmV t tp tc rp rc p c, .int .i64 left] w (IntRet (SzEnds left t.wt) w) := by
  have HH := Lib.hid h
  have HT := Lib.hid hT
  have HB0 := Lib.hid (al_below w (.cells (tmC t tp tc rp rc p c) 27))
  have HX0 := Lib.hid (Bx9.new w t tp tc rp rc p c 27)
  have HW := Lib.hid t.wt_eq
  obtain ⟨f1, f2, _⟩ := (Tm.fit_eq t).1 hf
  clear h hT hf
  go_enter Tryd.func10, Tryd.ntmps10
  by_cases c1 : left - (t.name.size : Int) < 0
  · go_wp2_with fail
    go_ret
    exact ⟨_, Or.inr ⟨rfl, by have := HW.out; omega⟩, rfl, HB0.out⟩
  by_cases c2 : left - (t.name.size : Int) - (t.other.size : Int) < 0
  · go_wp2_with fail
    go_ret
    exact ⟨_, Or.inr ⟨rfl, by have := HW.out; omega⟩, rfl, HB0.out⟩
  have HC3 := Lib.hid (szT_any (C := C) (t := t.ty) (v := .agg #[.int .i64 t.ty.kind, .slice tp t.ty.args.length tc]) ⟨_, rfl, HT.out.ty.keep HB0.out⟩ (left - (t.name.size : Int) - (t.other.size : Int)) (by omega) (by omega))
  go_wp2_with fail
  refine HC3.out.mono ?_
  rintro e w3 ⟨r3, hr3, rfl, hb3⟩
  have rg3 := hr3.range (by omega)
  have HR3 := Lib.hid hr3
  have HB3 := Lib.hid (HB0.out.trans (hb3.mono HB0.out.size))
  have hx3 := HX0.out.keep hb3
  obtain ⟨_, _, _, _, g4, g5, g6, g7, g8⟩ := hx3
  have HX3 := Lib.hid (HX0.out.keep hb3)
  clear hr3 hb3 HC3
  by_cases c3 : r3 < 0
  · go_wp2_with fail
    go_ret
    exact ⟨_, Or.inr ⟨rfl, by have := HW.out; have := HR3.out; unfold SzEnds at this; omega⟩, rfl, HB3.out⟩
  have HC4 := Lib.hid (szT_any (C := C) (t := t.res) (v := .agg #[.int .i64 t.res.kind, .slice rp t.res.args.length rc]) ⟨_, rfl, HT.out.res.keep HB3.out⟩ r3 (by omega) (by omega))
  go_wp2_with fail
  refine HC4.out.mono ?_
  rintro e w4 ⟨r4, hr4, rfl, hb4⟩
  have rg4 := hr4.range (by omega)
  have HR4 := Lib.hid hr4
  have HB4 := Lib.hid (HB3.out.trans (hb4.mono HB3.out.size))
  have hx4 := HX3.out.keep hb4
  clear g4 g5 g6 g7 g8
  obtain ⟨_, _, _, _, _, _, _, _, g8⟩ := hx4
  clear hr4 hb4 HC4
  by_cases c4 : r4 < 0
  · go_wp2_with fail
    go_ret
    exact ⟨_, Or.inr ⟨rfl, by have := HW.out; have := HR3.out; have := HR4.out; unfold SzEnds at *; omega⟩, rfl, HB4.out⟩
  have HC5 := Lib.hid (HH.out w4 r4 HB4.out (by omega) (by omega))
  go_wp2_with fail
  refine HC5.out.mono ?_
  rintro e w5 ⟨r5, hr5, rfl, hb5⟩
  have rg5 := hr5.range (by omega)
  have HR5 := Lib.hid hr5
  have HB5 := Lib.hid (HB4.out.trans (hb5.mono HB4.out.size))
  clear hr5 hb5 HC5
  by_cases c5 : r5 < 0
  · go_wp2_with fail
    go_ret
    exact ⟨_, by have := HW.out; have := HR3.out; have := HR4.out; have := HR5.out; unfold SzEnds at *; omega, rfl, HB5.out⟩
  · go_wp2_with fail
    go_ret
    exact ⟨_, by have := HW.out; have := HR3.out; have := HR4.out; have := HR5.out; unfold SzEnds at *; omega, rfl, HB5.out⟩
def LeftM (left : Int) (ts : List Tm) (k : Nat) (L : Int) : Prop := L + ts.length + (wtS (ts.take k) - k : Nat) = left
theorem wtS_take_ge (ts : List Tm) (k : Nat) (h : k ≤ ts.length) : k ≤ wtS (ts.take k) := by
  have := wtS_ge (ts.take k)
  rw [List.length_take] at this
  omega
theorem leftM_next {left : Int} {ts : List Tm} {k : Nat} {L r : Int} (h : LeftM left ts k L) (hk : k < ts.length) (hr : SzEnds L ts[k].wt r) (h0 : 0 ≤ r) : LeftM left ts (k + 1) r := by
  have h1 := wtS_take ts k hk
  have h2 := wtS_take_ge ts k (Nat.le_of_lt hk)
  unfold LeftM SzEnds at *
  omega
theorem leftM_over {left : Int} {ts : List Tm} {k : Nat} {L r : Int} (h : LeftM left ts k L) (hk : k < ts.length) (hr : SzEnds L ts[k].wt r) (h0 : r < 0) : SzEnds left (wtS ts) (-1) := by
  have h1 := wtS_take ts k hk
  have h2 := wtS_take_ge ts k (Nat.le_of_lt hk)
  have h3 := wtS_append (ts.take (k + 1)) (ts.drop (k + 1))
  rw [List.take_append_drop] at h3
  have h4 := wtS_ge (ts.drop (k + 1))
  rw [List.length_drop] at h4
  unfold LeftM SzEnds at *
  omega
theorem leftM_end {left : Int} {ts : List Tm} {L : Int} (h : LeftM left ts ts.length L) (h0 : 0 ≤ L) : SzEnds left (wtS ts) L := by
  have h2 := wtS_ge ts
  unfold LeftM at h
  rw [List.take_length] at h
  unfold SzEnds
  omega

set_option maxRecDepth 100000 in
set_option maxHeartbeats 1000000 in
theorem szMS_any {w0 : World} {C : Nat → Prop} {ts : List Tm} {v : Value} (h : DM w0 C (tmD ts) v) : ∀ (w : World) (left : Int), Stays C w0 w → 0 ≤ left → left ≤ 1048576 → fitS ts →
    Calls Tryd.prog 30 #[v, .int .i64 left] w (IntRet (SzEnds left (wtS ts)) w) := by
  refine tm_ind (motive := fun ts v => ∀ (w : World) (left : Int), Stays C w0 w → 0 ≤ left → left ≤ 1048576 → fitS ts → Calls Tryd.prog 30 #[v, .int .i64 left] w (IntRet (SzEnds left (wtS ts)) w)) ?_ _ (Nat.le_refl _) h
  intro ts q d hlen H w left hst h0 hl hfit
  have HH := Lib.hid H
  have HST := Lib.hid hst
  have HF := Lib.hid hfit
  clear H hst hfit
  go_enter Tryd.func30, Tryd.ntmps30
  by_cases hbig : left - (ts.length : Int) < 0
  · go_wp2_with fail
    go_ret
    exact ⟨_, Or.inr ⟨rfl, by have := wtS_ge ts; omega⟩, rfl, Below.refl _ _⟩
  · go_wp2_with fail
    go_loopw [1, 5] (fun l i wr => ∃ (k : Nat) (L : Int), k ≤ ts.length ∧ 0 ≤ L ∧ L ≤ left ∧ i = .int .i64 k ∧ l = .int .i64 L ∧ LeftM left ts k L ∧ Below w.heap.size w wr) (fun _ i _ => ts.length - (intOf i).toNat)
    case atStart => exact ⟨0, _, Nat.zero_le _, by omega, by omega, rfl, rfl, by unfold LeftM; simp [wtS], Below.refl _ _⟩
    case round =>
      obtain ⟨k, L, hk, hL0, hL1, rfl, rfl, hat, hbr⟩ := hrel
      have HA := Lib.hid hat
      have HB := Lib.hid hbr
      have HSR := Lib.hid (HST.out.trans (Stays.of_below (C := C) hbr))
      clear hat hbr
      by_cases hlk : k < ts.length
      · obtain ⟨b, o, tp, tc, rp, rc, p, c, rfl, hC, hb, h9, hT, hI⟩ := HH.out k hlk
        obtain ⟨g0, g1, g2, g3, g4, g5, g6, g7, g8⟩ := h9 wr HSR.out
        have hfk := fitS_at ts k hlk HF.out
        have HC := Lib.hid (szM_of (C := C) L hL0 (by omega) (hT.stays HSR.out) hfk (fun w' l hw' hl0 hl1 => hI w' l (HSR.out.trans (.of_below hw')) hl0 (by omega) ((Tm.fit_eq _).1 hfk).2.2))
        have i0 : (0 : Int) ≤ (k : Int) := Int.natCast_nonneg _
        have i1 : (k : Int) < (ts.length : Int) := by omega
        clear hC hb h9 hT hI hfk
        go_wp2_with fail
        refine HC.out.mono ?_
        rintro e w1 ⟨r, hr, rfl, hb1⟩
        have hrg := hr.range hL0
        have HR := Lib.hid hr
        have HB1 := Lib.hid (HB.out.trans (hb1.mono HB.out.size))
        clear hr hb1
        by_cases hneg : r < 0
        · go_wp2_with fail
          go_ret
          exact ⟨_, leftM_over HA.out hlk HR.out hneg, rfl, HB1.out⟩
        · go_wp2_with fail
          go_roundw
          case rel => exact ⟨k + 1, r, by omega, by omega, by omega, by go_num, rfl, leftM_next HA.out hlk HR.out (by omega), HB1.out⟩
          case measure => simp [intOf]; omega
      · obtain rfl : k = ts.length := by omega
        go_wp2_with fail
        go_ret
        exact ⟨_, leftM_end HA.out hL0, rfl, HB.out⟩
theorem szM_any {C : Nat → Prop} {t : Tm} {v : Value} {w : World} (h : TM w C t v) (hf : t.fit) (left : Int) (h0 : 0 ≤ left) (hl : left ≤ 1048576) :
    Calls Tryd.prog 10 #[v, .int .i64 left] w (IntRet (SzEnds left t.wt) w) := by
  obtain ⟨tp, tc, rp, rc, p, c, rfl, hT⟩ := h
  exact szM_of left h0 hl hT hf (fun w' l hb hl0 hl1 => szMS_any hT.args w' l (.of_below hb) hl0 (by omega) ((Tm.fit_eq t).1 hf).2.2)
end Go.Proofs.YtfeijijeohfpgaaDoor
namespace Go.Proofs.YtfeijijeohfpgaaDoor
open Go Go.ChangeShapes Go.WideShapes Go.RowKit

theorem cells_tm : Tryd.prog.cellsOf 27 = 9 := by kernel_rfl
theorem cells_slm : Tryd.prog.cellsOf 25 = 1 := by kernel_rfl

section
variable {H : Type} {enc : TypeId × Value → H} {w : World} {spare : Nat → Bool} {held : Bool}

theorem cell_of_cells9 {a : Addr} {cs : List Value} {base i : Nat} (h : w.cells? base (a.add (i * 9)) 9 = some cs) : cs.length = 9 ∧ ∀ j, j < 9 → w.cell? (a.add (i * 9 + j)) = cs[j]? := by
  unfold World.cells? at h
  split at h
  · have e : (List.range 9) = [0, 1, 2, 3, 4, 5, 6, 7, 8] := rfl
    rw [e] at h
    simp only [List.mapM_cons, List.mapM_nil, Option.bind_eq_bind, Option.bind_eq_some_iff, Option.pure_def, Option.some.injEq] at h
    obtain ⟨v0, h0, _, ⟨v1, h1, _, ⟨v2, h2, _, ⟨v3, h3, _, ⟨v4, h4, _, ⟨v5, h5, _, ⟨v6, h6, _, ⟨v7, h7, _, ⟨v8, h8, _, rfl, rfl⟩, rfl⟩, rfl⟩, rfl⟩, rfl⟩, rfl⟩, rfl⟩, rfl⟩, rfl⟩ := h
    rw [Go.Deep.add_add] at h0 h1 h2 h3 h4 h5 h6 h7 h8
    refine ⟨rfl, fun j hj => ?_⟩
    match j, hj with
    | 0, _ => exact h0
    | 1, _ => exact h1
    | 2, _ => exact h2
    | 3, _ => exact h3
    | 4, _ => exact h4
    | 5, _ => exact h5
    | 6, _ => exact h6
    | 7, _ => exact h7
    | 8, _ => exact h8
    | n + 9, hj => omega
  · cases h

set_option maxRecDepth 100000 in
set_option maxHeartbeats 2000000 in
theorem open_tm : ∀ (fuel : Nat), (∀ (cs : List Value) (x : DataW H × List MemPlace), DataW.trod enc Tryd.prog w 0 spare held fuel 27 cs = some x → ∃ (t : Tm) (tp : Option Addr) (tc : Nat) (rp : Option Addr) (rc : Nat) (p : Option Addr) (c : Nat),
      cs = (tmC t tp tc rp rc p c).toList ∧ TM' w (fun _ => True) t tp tc rp rc p c ∧ t.fit) ∧
    (∀ (cs : List Value) (x : DataW H × List MemPlace), DataW.trod enc Tryd.prog w 0 spare held fuel 25 cs = some x → ∃ (s : Value) (ts : List Tm), cs = [s] ∧ DM w (fun _ => True) (tmD ts) s ∧ fitS ts) := by
  intro fuel
  induction fuel using Nat.strongRecOn with
  | _ fuel IH =>
    constructor
    · intro cs x h
      obtain ⟨xs, n, hn, _, hl, hlen, hf⟩ := DataW.trod_struct Tryd.underlying27 h
      rw [cells_tm] at hl
      have g0 : DataW.trod enc Tryd.prog w 0 spare held n 3 ((cs.drop 0).take (Tryd.prog.cellsOf 3)) = xs[0]? := hf 0 _ rfl
      have g1 : DataW.trod enc Tryd.prog w 0 spare held n 9 ((cs.drop 1).take (Tryd.prog.cellsOf 9)) = xs[1]? := hf 1 _ rfl
      have g2 : DataW.trod enc Tryd.prog w 0 spare held n 9 ((cs.drop 2).take (Tryd.prog.cellsOf 9)) = xs[2]? := hf 2 _ rfl
      have g3 : DataW.trod enc Tryd.prog w 0 spare held n 3 ((cs.drop 3).take (Tryd.prog.cellsOf 3)) = xs[3]? := hf 3 _ rfl
      have g4 : DataW.trod enc Tryd.prog w 0 spare held n 24 ((cs.drop 4).take (Tryd.prog.cellsOf 24)) = xs[4]? := hf 4 _ rfl
      have g5 : DataW.trod enc Tryd.prog w 0 spare held n 24 ((cs.drop 6).take (Tryd.prog.cellsOf 24)) = xs[5]? := hf 5 _ rfl
      have g6 : DataW.trod enc Tryd.prog w 0 spare held n 25 ((cs.drop 8).take (Tryd.prog.cellsOf 25)) = xs[6]? := hf 6 _ rfl
      rw [cells_int] at g0 g3
      rw [cells_str] at g1 g2
      rw [cells_ty] at g4 g5
      rw [cells_slm] at g6
      match cs, hl, xs, hlen with
      | [c0, c1, c2, c3, c4, c5, c6, c7, c8], _, [y0, y1, y2, y3, y4, y5, y6], _ =>
        obtain ⟨k, hk, _, _⟩ := DataW.trod_int Tryd.underlying3 g0
        obtain ⟨sa, ha, _, za⟩ := DataW.trod_string Tryd.underlying9 g1
        obtain ⟨sb, hb, _, zb⟩ := DataW.trod_string Tryd.underlying9 g2
        obtain ⟨nn, hnn, _, _⟩ := DataW.trod_int Tryd.underlying3 g3
        obtain ⟨kt, st, tts, hst, htt⟩ := (open_ty n).1 _ _ g4
        obtain ⟨kr, sr, rts, hsr, hrt⟩ := (open_ty n).1 _ _ g5
        obtain ⟨s, ts, hs, ht, hfit⟩ := (IH n (by omega)).2 _ _ g6
        simp only [List.drop_zero, List.drop_succ_cons, List.take_succ_cons, List.take_zero, List.cons.injEq, and_true] at hk ha hb hnn hst hsr hs
        obtain ⟨rfl, rfl⟩ := hst
        obtain ⟨rfl, rfl⟩ := hsr
        subst hk ha hb hnn hs
        obtain ⟨tp, tc, rfl⟩ := htt.form
        obtain ⟨rp, rc, rfl⟩ := hrt.form
        obtain ⟨p, c, rfl⟩ := ht.form
        exact ⟨.mk k sa sb nn (.mk kt tts) (.mk kr rts) ts, tp, tc, rp, rc, p, c, rfl, ⟨htt, hrt, ht⟩, (Tm.fit_eq _).2 ⟨za, zb, hfit⟩⟩
    · intro cs x h
      rcases DataW.trod_slice Tryd.underlying25 h with ⟨rfl, _⟩ | ⟨a, len, cap, elems, rest, n, hn, rfl, _, _, hl, hm, hlen, hel, _, _⟩
      · exact ⟨_, [], rfl, .nil _ _ _ _, trivial⟩
      · by_cases h0 : len = 0
        · subst h0
          exact ⟨_, [], rfl, .nil _ _ _ _, trivial⟩
        rw [cells_tm] at hel
        have each : ∀ i, i < len → ∃ z : Tm, (∃ (tp : Option Addr) (tc : Nat) (rp : Option Addr) (rc : Nat) (p : Option Addr) (c : Nat),
            (∀ j, j < 9 → w.cell? (a.add (i * 9 + j)) = (tmC z tp tc rp rc p c).toList[j]?) ∧ TM' w (fun _ => True) z tp tc rp rc p c) ∧ z.fit := by
          intro i hi
          have hb := hel i hi
          rw [List.getElem?_eq_getElem (by omega), Option.bind_eq_some_iff] at hb
          obtain ⟨cs', hcs, ht⟩ := hb
          obtain ⟨t, tp, tc, rp, rc, p, c, rfl, hT, hft⟩ := (IH n (by omega)).1 _ _ ht
          exact ⟨t, ⟨tp, tc, rp, rc, p, c, (cell_of_cells9 hcs).2, hT⟩, hft⟩
        haveI : Inhabited Tm := ⟨.mk 0 .empty .empty 0 (.mk 0 []) (.mk 0 []) []⟩
        obtain ⟨f, hf⟩ := Go.Deep.choose_lt (α := Tm) each
        have hspot : a.spot = none := by
          obtain ⟨⟨_, _, _, _, _, _, h9, _⟩, _⟩ := hf 0 (by omega)
          have := h9 0 (by omega)
          simp only [Nat.zero_mul, Nat.zero_add] at this
          simpa [Addr.add] using World.cell?_spot this
        obtain ⟨b, o, sp⟩ := a
        simp only at hspot
        subst hspot
        simp only [Go.WideShapes.add_plain] at hf
        have hb : b < w.heap.size := by
          obtain ⟨⟨_, _, _, _, _, _, h9, _⟩, _⟩ := hf 0 (by omega)
          exact World.block_lt_of_cell? w _ (h9 0 (by omega))
        let ts := (List.range len).map fun i => f i
        have hts : ts.length = len := by simp [ts]
        have at_ : ∀ j (hj : j < ts.length), ts[j] = f j := by
          intro j hj
          simp [ts]
        -- every cell of the row is there and holds what its term asks
        have cell : ∀ (i : Nat) (d : D), (flatTm ts)[i]? = some d → ∃ v, w.cell? ⟨b, o + i, none⟩ = some v ∧ DM w (fun _ => True) d v := by
          intro i d hd
          have hi : i < ts.length * 9 := by
            rw [← flatTm_len]
            exact (List.getElem?_eq_some_iff.1 hd).1
          obtain ⟨j, k, hj, hk, rfl⟩ : ∃ j k, j < ts.length ∧ k < 9 ∧ i = j * 9 + k := ⟨i / 9, i % 9, by omega, by omega, by omega⟩
          rw [flatTm_at ts j k hj hk, Tm.ds_eq, at_ j hj] at hd
          obtain ⟨⟨tp, tc, rp, rc, p, c, h9, hT⟩, _⟩ := hf j (by omega)
          have h := h9 k hk
          match k, hk with
          | 0, _ => cases hd; exact ⟨_, h, .cell _⟩
          | 1, _ => cases hd; exact ⟨_, h, .cell _⟩
          | 2, _ => cases hd; exact ⟨_, h, .cell _⟩
          | 3, _ => cases hd; exact ⟨_, h, .cell _⟩
          | 4, _ => cases hd; exact ⟨_, h, .cell _⟩
          | 5, _ => cases hd; exact ⟨_, h, hT.ty.dm⟩
          | 6, _ => cases hd; exact ⟨_, h, .cell _⟩
          | 7, _ => cases hd; exact ⟨_, h, hT.res.dm⟩
          | 8, _ => cases hd; exact ⟨_, h, hT.args⟩
          | n + 9, hk => omega
        have pick : ∀ i, i < ts.length * 9 → ∃ v : Value, w.cell? ⟨b, o + i, none⟩ = some v ∧ ∀ d, (flatTm ts)[i]? = some d → DM w (fun _ => True) d v := by
          intro i hi
          obtain ⟨v, h1, h2⟩ := cell i _ (List.getElem?_eq_getElem (by rw [flatTm_len]; exact hi))
          refine ⟨v, h1, fun d hd => ?_⟩
          rw [List.getElem?_eq_getElem (by rw [flatTm_len]; exact hi)] at hd
          exact (Option.some.inj hd) ▸ h2
        haveI : Inhabited Value := ⟨.int .i64 0⟩
        obtain ⟨V, hV⟩ := Go.Deep.choose_lt (α := Value) pick
        refine ⟨_, ts, rfl, ?_, fitS_of ts fun j hj => ?_⟩
        · have key := DM.rows (w := w) (C := fun _ => True) (T := 35) (k := 9) (n := ts.length) (b := b) (o := o) (c := cap) (ds := flatTm ts) V (by omega) (by omega) (by unfold maxLen at hm; omega) (flatTm_len ts) trivial hb
            (fun i d hd => (hV i (by rw [← flatTm_len]; exact (List.getElem?_eq_some_iff.1 hd).1)).1) (fun i d hd => (hV i (by rw [← flatTm_len]; exact (List.getElem?_eq_some_iff.1 hd).1)).2 d hd)
          rw [hts] at key
          show DM w _ (.rows _ 9 ts.length (flatTm ts)) _
          rw [hts]
          exact key
        · rw [at_ j hj]
          exact (hf j (by omega)).2
end

set_option maxRecDepth 100000 in
theorem open_term {H : Type} {enc : TypeId × Value → H} {W : World} {spare : Nat → Bool} {held : Bool} {r : Reach} {b0 : Nat} {v : Value} {d : DataW H} {p : List MemPlace}
    (hv : Value.okWide Tryd.prog W r b0 27 v) (h : DataW.Trod enc Tryd.prog W 0 spare held 27 v d p) : ∃ t : Tm, TM W (fun _ => True) t v ∧ t.fit := by
  obtain ⟨cs, rfl, hsz⟩ := okWide_struct Tryd.underlying27 hv
  obtain ⟨fuel, hf⟩ := h
  obtain ⟨t, tp, tc, rp, rc, p, c, hcs, ht, hfit⟩ := (open_tm fuel).1 _ _ hf
  have hcs' : cs = tmC t tp tc rp rc p c := by
    have : cs.toList = (tmC t tp tc rp rc p c).toList := hcs
    exact Array.toList_inj.1 this
  subst hcs'
  exact ⟨t, ⟨tp, tc, rp, rc, p, c, rfl, ht⟩, hfit⟩
end Go.Proofs.YtfeijijeohfpgaaDoor
namespace Go.Proofs.YtfeijijeohfpgaaDoor
open Go

theorem str_inj {a b : ByteArray} (h : a.toList = b.toList) : a = b := by
  rw [ByteArray.toList_eq, ByteArray.toList_eq] at h
  obtain ⟨⟨a⟩⟩ := a
  obtain ⟨⟨b⟩⟩ := b
  rw [show a = b from h]
theorem str_yes {a b : ByteArray} (h : a = b) : (a.toList == b.toList) = true := by rw [h]; simp
theorem str_no {a b : ByteArray} (h : ¬ a = b) : (a.toList == b.toList) = false := by
  rw [beq_eq_false_iff_ne]
  exact fun hc => h (str_inj hc)
end Go.Proofs.YtfeijijeohfpgaaDoor
namespace Go.Proofs.YtfeijijeohfpgaaDoor
open Go Go.RowKit

set_option maxRecDepth 100000 in
set_option maxHeartbeats 2000000 in
theorem eqM_of {C C' : Nat → Prop} {t u : Tm} {tp rp p tp' rp' p' : Option Addr} {tc rc c tc' rc' c' : Nat} {w : World} (hT : TM' w C t tp tc rp rc p c) (hU : TM' w C' u tp' tc' rp' rc' p' c')
    (h : ∀ (w' : World), Below w.heap.size w w' → Calls Tryd.prog 38 #[.slice p t.args.length c, .slice p' u.args.length c'] w' (BoolRet (fun b => b = true ↔ t.args = u.args) w')) :
    Calls Tryd.prog 14 #[tmV t tp tc rp rc p c, tmV u tp' tc' rp' rc' p' c'] w (BoolRet (fun b => b = true ↔ t = u) w) := by
  have HH := Lib.hid h
  have HT := Lib.hid hT
  have HU := Lib.hid hU
  have hb1 := al_below w (.cells (tmC t tp tc rp rc p c) 35)
  have hb2 := al_below (w.alloc (.cells (tmC t tp tc rp rc p c) 35)) (.cells (tmC u tp' tc' rp' rc' p' c') 35)
  have hx2 := Bx9.new (w.alloc (.cells (tmC t tp tc rp rc p c) 35)) u tp' tc' rp' rc' p' c' 35
  rw [World.size_alloc] at hx2
  have HX1 := Lib.hid ((Bx9.new w t tp tc rp rc p c 35).keep hb2)
  have HX2 := Lib.hid hx2
  have HB0 := Lib.hid (hb1.trans (hb2.mono (by simp)))
  clear h hT hU hb1 hb2 hx2
  go_enter Tryd.func14, Tryd.ntmps14
  by_cases hk : t.kind = u.kind
  rotate_left
  · go_wp2_with fail
    go_ret
    exact ⟨false, by simp; exact fun e => hk (by rw [e]), rfl, HB0.out⟩
  have hk1 : t.kind ≤ u.kind := by omega
  have hk2 : u.kind ≤ t.kind := by omega
  have HK := Lib.hid hk
  clear hk
  by_cases hn : t.name = u.name
  rotate_left
  · have hn1 := str_no hn
    have HN := Lib.hid hn
    clear hn
    go_wp2_with fail
    go_ret
    exact ⟨false, by simp; exact fun e => HN.out (by rw [e]), rfl, HB0.out⟩
  have hn1 := str_yes hn
  have HN := Lib.hid hn
  clear hn
  by_cases ho : t.other = u.other
  rotate_left
  · have ho1 := str_no ho
    have HO := Lib.hid ho
    clear ho
    go_wp2_with fail
    go_ret
    exact ⟨false, by simp; exact fun e => HO.out (by rw [e]), rfl, HB0.out⟩
  have ho1 := str_yes ho
  have HO := Lib.hid ho
  clear ho
  by_cases hi : t.n = u.n
  rotate_left
  · go_wp2_with fail
    go_ret
    exact ⟨false, by simp; exact fun e => hi (by rw [e]), rfl, HB0.out⟩
  have HC3 := Lib.hid (eqT_any (C := C) (C' := C') (t := t.ty) (u := u.ty) (v := .agg #[.int .i64 t.ty.kind, .slice tp t.ty.args.length tc]) (x := .agg #[.int .i64 u.ty.kind, .slice tp' u.ty.args.length tc']) ⟨_, rfl, HT.out.ty.stays (.of_below HB0.out)⟩ ⟨_, rfl, HU.out.ty.stays (.of_below HB0.out)⟩)
  have hi1 : t.n ≤ u.n := by omega
  have hi2 : u.n ≤ t.n := by omega
  have HI := Lib.hid hi
  clear hi
  go_wp2_with fail
  refine HC3.out.mono ?_
  rintro e w3 ⟨r3, hr3, rfl, hb3⟩
  have HR3 := Lib.hid hr3
  have HB3 := Lib.hid (HB0.out.trans (hb3.mono HB0.out.size))
  have HX13 := Lib.hid (HX1.out.keep hb3)
  have HX23 := Lib.hid (HX2.out.keep hb3)
  obtain ⟨_, _, _, _, _, _, g6, g7, _⟩ := HX1.out.keep hb3
  obtain ⟨_, _, _, _, _, _, d6, d7, _⟩ := HX2.out.keep hb3
  clear hr3 hb3 HC3
  cases r3
  · go_wp2_with fail
    go_ret
    exact ⟨false, by simp; exact fun e => (by have := HR3.out.2 (by rw [e]); cases this), rfl, HB3.out⟩
  have HC4 := Lib.hid (eqT_any (C := C) (C' := C') (t := t.res) (u := u.res) (v := .agg #[.int .i64 t.res.kind, .slice rp t.res.args.length rc]) (x := .agg #[.int .i64 u.res.kind, .slice rp' u.res.args.length rc']) ⟨_, rfl, HT.out.res.stays (.of_below HB3.out)⟩ ⟨_, rfl, HU.out.res.stays (.of_below HB3.out)⟩)
  go_wp2_with fail
  refine HC4.out.mono ?_
  rintro e w4 ⟨r4, hr4, rfl, hb4⟩
  have HR4 := Lib.hid hr4
  have HB4 := Lib.hid (HB3.out.trans (hb4.mono HB3.out.size))
  clear g6 g7 d6 d7
  obtain ⟨_, _, _, _, _, _, _, _, g8⟩ := HX13.out.keep hb4
  obtain ⟨_, _, _, _, _, _, _, _, d8⟩ := HX23.out.keep hb4
  clear hr4 hb4 HC4
  cases r4
  · go_wp2_with fail
    go_ret
    exact ⟨false, by simp; exact fun e => (by have := HR4.out.2 (by rw [e]); cases this), rfl, HB4.out⟩
  have HC5 := Lib.hid (HH.out w4 HB4.out)
  go_wp2_with fail
  refine HC5.out.mono ?_
  rintro e w5 ⟨r5, hr5, rfl, hb5⟩
  have HR5 := Lib.hid hr5
  have HB5 := Lib.hid (HB4.out.trans (hb5.mono HB4.out.size))
  clear hr5 hb5 HC5
  cases r5
  · go_wp2_with fail
    go_ret
    exact ⟨false, by simp; exact fun e => (by have := HR5.out.2 (by rw [e]); cases this), rfl, HB5.out⟩
  · go_wp2_with fail
    go_ret
    exact ⟨true, by simp only [true_iff]; exact Tm.ext' HK.out HN.out HO.out HI.out (by simpa using HR3.out) (by simpa using HR4.out) (by simpa using HR5.out), rfl, HB5.out⟩

theorem keep18 {w W w1 : World} {p0 p1 p2 p3 p4 p5 p6 p7 p8 p9 p10 p11 p12 p13 p14 p15 p16 p17 : Addr} {v0 v1 v2 v3 v4 v5 v6 v7 v8 v9 v10 v11 v12 v13 v14 v15 v16 v17 : Value} (hb1 : Below W.heap.size W w1) (h : W.cell? p0 = some v0 ∧ W.cell? p1 = some v1 ∧ W.cell? p2 = some v2 ∧ W.cell? p3 = some v3 ∧ W.cell? p4 = some v4 ∧ W.cell? p5 = some v5 ∧ W.cell? p6 = some v6 ∧ W.cell? p7 = some v7 ∧ W.cell? p8 = some v8 ∧ W.cell? p9 = some v9 ∧ W.cell? p10 = some v10 ∧ W.cell? p11 = some v11 ∧ W.cell? p12 = some v12 ∧ W.cell? p13 = some v13 ∧ W.cell? p14 = some v14 ∧ W.cell? p15 = some v15 ∧ W.cell? p16 = some v16 ∧ W.cell? p17 = some v17 ∧ Below w.heap.size w W) : w1.cell? p0 = some v0 ∧ w1.cell? p1 = some v1 ∧ w1.cell? p2 = some v2 ∧ w1.cell? p3 = some v3 ∧ w1.cell? p4 = some v4 ∧ w1.cell? p5 = some v5 ∧ w1.cell? p6 = some v6 ∧ w1.cell? p7 = some v7 ∧ w1.cell? p8 = some v8 ∧ w1.cell? p9 = some v9 ∧ w1.cell? p10 = some v10 ∧ w1.cell? p11 = some v11 ∧ w1.cell? p12 = some v12 ∧ w1.cell? p13 = some v13 ∧ w1.cell? p14 = some v14 ∧ w1.cell? p15 = some v15 ∧ w1.cell? p16 = some v16 ∧ w1.cell? p17 = some v17 ∧ Below w.heap.size w w1 := by
  obtain ⟨h0, h1, h2, h3, h4, h5, h6, h7, h8, h9, h10, h11, h12, h13, h14, h15, h16, h17, hz⟩ := h
  exact ⟨keepN hb1 h0, keepN hb1 h1, keepN hb1 h2, keepN hb1 h3, keepN hb1 h4, keepN hb1 h5, keepN hb1 h6, keepN hb1 h7, keepN hb1 h8, keepN hb1 h9, keepN hb1 h10, keepN hb1 h11, keepN hb1 h12, keepN hb1 h13, keepN hb1 h14, keepN hb1 h15, keepN hb1 h16, keepN hb1 h17, hz.trans (hb1.mono hz.size)⟩

theorem tm_take_eq {ts us : List Tm} {k : Nat} (h : ts.take k = us.take k) (h1 : k < ts.length) (h2 : k < us.length) (he : ts[k] = us[k]) : ts.take (k + 1) = us.take (k + 1) := by
  rw [List.take_add_one, List.take_add_one, h, List.getElem?_eq_getElem h1, List.getElem?_eq_getElem h2, he]
theorem tm_ne_at {ts us : List Tm} {k : Nat} (h1 : k < ts.length) (h2 : k < us.length) (hn : ¬ ts[k] = us[k]) : ts ≠ us := by
  intro e; subst e; exact hn rfl

set_option maxRecDepth 100000 in
set_option maxHeartbeats 2000000 in
theorem eqMS_any {w0 : World} {C : Nat → Prop} {ts : List Tm} {v : Value} (h : DM w0 C (tmD ts) v) : ∀ (w : World) (C' : Nat → Prop) (us : List Tm) (u : Value), Stays C w0 w → DM w C' (tmD us) u →
    Calls Tryd.prog 38 #[v, u] w (BoolRet (fun b => b = true ↔ ts = us) w) := by
  refine tm_ind (motive := fun ts v => ∀ (w : World) (C' : Nat → Prop) (us : List Tm) (u : Value), Stays C w0 w → DM w C' (tmD us) u → Calls Tryd.prog 38 #[v, u] w (BoolRet (fun b => b = true ↔ ts = us) w)) ?_ _ (Nat.le_refl _) h
  intro ts q d hlen0 H w C' us u hst hu
  obtain ⟨q', d', rfl⟩ := hu.form
  have hlen' := hu.len.1
  have HH := Lib.hid H
  have HST := Lib.hid hst
  have HU := Lib.hid hu
  clear H hst hu
  go_enter Tryd.func38, Tryd.ntmps38
  by_cases hlen : ts.length = us.length
  rotate_left
  · have hne : ¬ (ts = us) := fun e => hlen (by rw [e])
    have HN := Lib.hid hne
    clear hne
    go_wp2_with fail
    go_ret
    exact ⟨false, by simpa using HN.out, rfl, Below.refl _ _⟩
  have HL := Lib.hid hlen
  rw [← hlen]
  clear hlen
  go_wp2_with fail
  go_loopw [5] (fun i wr => ∃ (k : Nat), k ≤ ts.length ∧ i = .int .i64 k ∧ ts.take k = us.take k ∧ Below w.heap.size w wr) (fun i _ => ts.length - (intOf i).toNat)
  case atStart => exact ⟨0, Nat.zero_le _, rfl, by simp, Below.refl _ _⟩
  case round =>
    obtain ⟨k, hk, rfl, htk, hbr⟩ := hrel
    have HTK := Lib.hid htk
    have HB := Lib.hid hbr
    have HSR := Lib.hid (HST.out.trans (Stays.of_below (C := C) hbr))
    clear htk
    by_cases hlk : k < ts.length
    · have hlk2 : k < us.length := by rw [← HL.out]; exact hlk
      obtain ⟨b, o, tp, tc, rp, rc, p, c, rfl, hC, hb, h9, hT, hI⟩ := HH.out k hlk
      obtain ⟨b2, o2, tp2, tc2, rp2, rc2, p2, c2, rfl, hC2, hb2, h92, hT2⟩ := tm_part HU.out k hlk2
      obtain ⟨g0, g1, g2, g3, g4, g5, g6, g7, g8⟩ := h9 wr HSR.out
      obtain ⟨d0, d1, d2, d3, d4, d5, d6, d7, d8⟩ := h92 wr (.of_below hbr)
      have HC := Lib.hid (eqM_of (w := wr.drew) (C := C) (C' := C') ((hT.stays HSR.out).stays (.of_below (Below.refl _ _).drew)) ((hT2.stays (.of_below hbr)).stays (.of_below (Below.refl _ _).drew)) (fun w' hw' => by
        have hw1 : Below wr.heap.size wr w' := (Below.refl _ _).drew.trans hw'
        exact hI w' C' _ _ (HSR.out.trans (.of_below hw1)) ((hT2.stays (.of_below hbr)).args.stays (.of_below hw1))))
      have i0 : (0 : Int) ≤ (k : Int) := Int.natCast_nonneg _
      have i1 : (k : Int) < (ts.length : Int) := by omega
      clear hC hb h9 hT hI hC2 hb2 h92 hT2 hbr
      go_wp2_with fail
      go_region_held3 (fun w' => w'.cell? ⟨b, o + k * 9, none⟩ = some (.int .i64 ts[k].kind) ∧ w'.cell? ⟨b, o + k * 9 + 1, none⟩ = some (.string ts[k].name) ∧ w'.cell? ⟨b, o + k * 9 + 2, none⟩ = some (.string ts[k].other) ∧ w'.cell? ⟨b, o + k * 9 + 3, none⟩ = some (.int .i64 ts[k].n) ∧ w'.cell? ⟨b, o + k * 9 + 4, none⟩ = some (.int .i64 ts[k].ty.kind) ∧ w'.cell? ⟨b, o + k * 9 + 5, none⟩ = some (.slice tp ts[k].ty.args.length tc) ∧ w'.cell? ⟨b, o + k * 9 + 6, none⟩ = some (.int .i64 ts[k].res.kind) ∧ w'.cell? ⟨b, o + k * 9 + 7, none⟩ = some (.slice rp ts[k].res.args.length rc) ∧ w'.cell? ⟨b, o + k * 9 + 8, none⟩ = some (.slice p ts[k].args.length c) ∧ w'.cell? ⟨b2, o2 + k * 9, none⟩ = some (.int .i64 us[k].kind) ∧ w'.cell? ⟨b2, o2 + k * 9 + 1, none⟩ = some (.string us[k].name) ∧ w'.cell? ⟨b2, o2 + k * 9 + 2, none⟩ = some (.string us[k].other) ∧ w'.cell? ⟨b2, o2 + k * 9 + 3, none⟩ = some (.int .i64 us[k].n) ∧ w'.cell? ⟨b2, o2 + k * 9 + 4, none⟩ = some (.int .i64 us[k].ty.kind) ∧ w'.cell? ⟨b2, o2 + k * 9 + 5, none⟩ = some (.slice tp2 us[k].ty.args.length tc2) ∧ w'.cell? ⟨b2, o2 + k * 9 + 6, none⟩ = some (.int .i64 us[k].res.kind) ∧ w'.cell? ⟨b2, o2 + k * 9 + 7, none⟩ = some (.slice rp2 us[k].res.args.length rc2) ∧ w'.cell? ⟨b2, o2 + k * 9 + 8, none⟩ = some (.slice p2 us[k].args.length c2) ∧ Below w.heap.size w w')
        (first
          | (go_keep; done)
          | exact ⟨g0, g1, g2, g3, g4, g5, g6, g7, g8, d0, d1, d2, d3, d4, d5, d6, d7, d8, HB.out.drew⟩
          | exact keep18 hb1 (by assumption))
        (first
          | (go_at_call 14; refine HC.out.mono ?_; rintro e w1 ⟨r, hr, rfl, hb1⟩))
      have HR := Lib.hid hr
      have HB1 := Lib.hid (HB.out.trans (((Below.refl _ _).drew.trans hb1).mono HB.out.size))
      rename_i hH
      clear hH hb1 hr g0 g1 g2 g3 g4 g5 g6 g7 g8 d0 d1 d2 d3 d4 d5 d6 d7 d8
      cases r with
      | true =>
        go_wp2_with fail
        go_roundw
        case rel => exact ⟨k + 1, by omega, by go_num, tm_take_eq HTK.out hlk hlk2 (HR.out.1 rfl), HB1.out⟩
        case measure => simp [intOf]; omega
      | false =>
        go_wp2_with fail
        go_ret
        exact ⟨false, by simpa using tm_ne_at hlk hlk2 (fun e => by simpa using HR.out.2 e), rfl, HB1.out⟩
    · obtain rfl : k = ts.length := by omega
      have htk : ts = us := by
        have := HTK.out
        rw [List.take_length, HL.out, List.take_length] at this
        exact this
      have HE := Lib.hid htk
      clear htk
      go_wp2_with fail
      go_ret
      exact ⟨true, by simpa using HE.out, rfl, HB.out⟩
theorem eqM_any {C C' : Nat → Prop} {t u : Tm} {v x : Value} {w : World} (h : TM w C t v) (h2 : TM w C' u x) :
    Calls Tryd.prog 14 #[v, x] w (BoolRet (fun b => b = true ↔ t = u) w) := by
  obtain ⟨tp, tc, rp, rc, p, c, rfl, hT⟩ := h
  obtain ⟨tp2, tc2, rp2, rc2, p2, c2, rfl, hU⟩ := h2
  exact eqM_of hT hU (fun w' hb => eqMS_any hT.args w' _ _ _ (.of_below hb) (hU.args.keep hb))
end Go.Proofs.YtfeijijeohfpgaaDoor
namespace Go.Proofs.YtfeijijeohfpgaaDoor
open Go Go.RowKit

theorem infoTm : (Tryd.prog.info? 35).map (fun i => (i.zero, i.size, i.bytes)) = some (some (.agg #[.int .i64 0, .string ⟨#[]⟩, .string ⟨#[]⟩, .int .i64 0, .int .i64 0, .slice none 0 0, .int .i64 0, .slice none 0 0, .slice none 0 0]), 9, 136) := by kernel_rfl
abbrev tmL (t : Tm) (tp : Option Addr) (tc : Nat) (rp : Option Addr) (rc : Nat) (p : Option Addr) (c : Nat) : List Value :=
  [.int .i64 t.kind, .string t.name, .string t.other, .int .i64 t.n, .int .i64 t.ty.kind, .slice tp t.ty.args.length tc, .int .i64 t.res.kind, .slice rp t.res.args.length rc, .slice p t.args.length c]
def OMv (w : World) (t : Tm) (v : Value) (F : Nat → Prop) : Prop := ∃ tp tc rp rc p c, v = tmV t tp tc rp rc p c ∧ OSt w t.ds (tmL t tp tc rp rc p c) F
theorem OSt.tm {w : World} {t : Tm} {tp rp p : Option Addr} {tc rc c : Nat} {F : Nat → Prop} (h : OSt w t.ds (tmL t tp tc rp rc p c) F) : TM' w F t tp tc rp rc p c := by
  have hm := h.ms.2
  rw [t.ds_eq] at hm
  exact ⟨(hm 5 _ _ rfl rfl).ts _ (Nat.le_refl _), (hm 7 _ _ rfl rfl).ts _ (Nat.le_refl _), hm 8 _ _ rfl rfl⟩
theorem OMv.tm {w : World} {t : Tm} {v : Value} {F : Nat → Prop} (h : OMv w t v F) : TM w F t v := by
  obtain ⟨tp, tc, rp, rc, p, c, hv, h⟩ := h
  exact ⟨tp, tc, rp, rc, p, c, hv, h.tm⟩
theorem OMv.stays {w w' : World} {t : Tm} {v : Value} {F : Nat → Prop} (h : OMv w t v F) (hs : Stays F w w') : OMv w' t v F := by
  obtain ⟨tp, tc, rp, rc, p, c, hv, h⟩ := h
  exact ⟨tp, tc, rp, rc, p, c, hv, h.stays hs⟩
theorem OMv.keep {w w' : World} {t : Tm} {v : Value} {F : Nat → Prop} (h : OMv w t v F) (hb : Below w.heap.size w w') : OMv w' t v F := h.stays (.of_below hb)
theorem OSt9 {w : World} {t : Tm} {tp rp p : Option Addr} {tc rc c : Nat} {F F1 F2 F3 : Nat → Prop} (h1 : OS w t.ty.args (.slice tp t.ty.args.length tc) F1) (h2 : OS w t.res.args (.slice rp t.res.args.length rc) F2) (h3 : DO w (tmD t.args) (.slice p t.args.length c) F3)
    (a1 : ∀ z, F1 z → F z ∧ ¬ F2 z ∧ ¬ F3 z) (a2 : ∀ z, F2 z → F z ∧ ¬ F3 z) (a3 : ∀ z, F3 z → F z) : OSt w t.ds (tmL t tp tc rp rc p c) F := by
  refine ⟨by rw [t.ds_len]; rfl, fun i z => (i = 5 ∧ F1 z) ∨ (i = 7 ∧ F2 z) ∨ (i = 8 ∧ F3 z), fun i d v hd hv => ?_, fun i z _ hz => ?_, fun i j z _ _ hij hz1 hz2 => ?_⟩
  · rw [t.ds_eq] at hd
    match i, hd, hv with
    | 0, hd, hv => cases hd; cases hv; exact .cell _ _
    | 1, hd, hv => cases hd; cases hv; exact .cell _ _
    | 2, hd, hv => cases hd; cases hv; exact .cell _ _
    | 3, hd, hv => cases hd; cases hv; exact .cell _ _
    | 4, hd, hv => cases hd; cases hv; exact .cell _ _
    | 5, hd, hv => cases hd; cases hv; exact h1.dO.mono (fun z hz => Or.inl ⟨rfl, hz⟩)
    | 6, hd, hv => cases hd; cases hv; exact .cell _ _
    | 7, hd, hv => cases hd; cases hv; exact h2.dO.mono (fun z hz => Or.inr (Or.inl ⟨rfl, hz⟩))
    | 8, hd, hv => cases hd; cases hv; exact h3.mono (fun z hz => Or.inr (Or.inr ⟨rfl, hz⟩))
    | n + 9, hd, hv => simp at hv
  · rcases hz with ⟨_, hz⟩ | ⟨_, hz⟩ | ⟨_, hz⟩
    · exact (a1 z hz).1
    · exact (a2 z hz).1
    · exact a3 z hz
  · rcases hz1 with ⟨rfl, h1⟩ | ⟨rfl, h1⟩ | ⟨rfl, h1⟩ <;> rcases hz2 with ⟨rfl, h2⟩ | ⟨rfl, h2⟩ | ⟨rfl, h2⟩
    · exact hij rfl
    · exact (a1 z h1).2.1 h2
    · exact (a1 z h1).2.2 h2
    · exact (a1 z h2).2.1 h1
    · exact hij rfl
    · exact (a2 z h1).2 h2
    · exact (a1 z h2).2.2 h1
    · exact (a2 z h2).2 h1
    · exact hij rfl
def NewM (t : Tm) (w : World) (e : Ending) (w' : World) : Prop := ∃ v, e = .returned v ∧ OMv w' t v (fun g => w.heap.size ≤ g ∧ g < w'.heap.size) ∧ Below w.heap.size w w'
def NewMS (ts : List Tm) (w : World) (e : Ending) (w' : World) : Prop := ∃ v, e = .returned v ∧ DO w' (tmD ts) v (fun g => w.heap.size ≤ g ∧ g < w'.heap.size) ∧ Below w.heap.size w w'

set_option maxRecDepth 100000 in
set_option maxHeartbeats 2000000 in
theorem toM_of {C : Nat → Prop} {t : Tm} {tp rp p : Option Addr} {tc rc c : Nat} {w : World} (hT : TM' w C t tp tc rp rc p c) (hn : t.wt ≤ 1048576)
    (h : ∀ (w' : World), Below w.heap.size w w' → Calls Tryd.prog 34 #[.slice p t.args.length c] w' (NewMS t.args w')) :
    Calls Tryd.prog 12 #[tmV t tp tc rp rc p c] w (NewM t w) := by
  have hwt := t.wt_eq
  have n1 : nodesS t.ty.args ≤ 1048576 := by omega
  have n2 : nodesS t.res.args ≤ 1048576 := by omega
  obtain ⟨⟨k0, k1, k2⟩, hsz, hbl⟩ := chain3 w (.cells (tmC t tp tc rp rc p c) 27) (.cells #[.int .i64 0, .string ⟨#[]⟩, .string ⟨#[]⟩, .int .i64 0, .int .i64 0, .slice none 0 0, .int .i64 0, .slice none 0 0, .slice none 0 0] 35)
    (.cells #[.int .i64 t.kind, .string t.name, .string t.other, .int .i64 t.n, .int .i64 0, .slice none 0 0, .int .i64 0, .slice none 0 0, .slice none 0 0] 35)
  have HH := Lib.hid h
  have HT := Lib.hid hT
  have HK0 := Lib.hid k0
  have HK1 := Lib.hid k1
  have HK2 := Lib.hid k2
  have HSZ := Lib.hid hsz
  have HBL := Lib.hid hbl
  clear h hT hwt hn k0 k1 k2 hsz hbl
  go_enter Tryd.func12, Tryd.ntmps12
  go_wp2_with fail
  refine (toT_any (C := C) (t := t.ty) (v := .agg #[.int .i64 t.ty.kind, .slice tp t.ty.args.length tc]) ⟨_, rfl, HT.out.ty.keep HBL.out⟩ n1).mono ?_
  rintro e w1 ⟨v1, rfl, ⟨s1, rfl, ho1⟩, hb1⟩
  obtain ⟨p1, c1, rfl⟩ := ho1.form
  have hb1s := hb1.size
  rw [HSZ.out] at hb1 hb1s ho1
  have q0 := (hb1.block w.heap.size (by omega)).trans HK0.out
  have q1 := (hb1.block (w.heap.size + 1) (by omega)).trans HK1.out
  have q2 := (hb1.block (w.heap.size + 1 + 1) (by omega)).trans HK2.out
  obtain ⟨_, _, _, _, _, _, x6, x7, x8⟩ := Bx9.of q0
  have y4 : w1.cell? ⟨w.heap.size + 1 + 1, 4, none⟩ = some (.int .i64 0) := cell_of_blk q2 4
  have y5 : w1.cell? ⟨w.heap.size + 1 + 1, 5, none⟩ = some (.slice none 0 0) := cell_of_blk q2 5
  have yz := unfrozen_of_blk q2
  have e2 := heap_setCell_same _ _ 5 _ _ (.slice p1 t.ty.args.length c1) (heap_setCell_same w1 _ 4 _ _ (.int .i64 t.ty.kind) q2)
  have st : ∀ F : Nat → Prop, ¬ F (w.heap.size + 1 + 1) → Stays F w1 ((w1.setCell ⟨w.heap.size + 1 + 1, 4, none⟩ (.int .i64 t.ty.kind)).setCell ⟨w.heap.size + 1 + 1, 5, none⟩ (.slice p1 t.ty.args.length c1)) := fun F hF => (setCell_stays _ _ _ _ F hF).trans (setCell_stays _ _ _ _ F hF)
  have HS1 := Lib.hid (st (fun z => z ≠ w.heap.size + 1 + 1) (by simp))
  have HO1 := Lib.hid (ho1.stays (st _ (by omega)))
  have HQ0 := Lib.hid ((HS1.out.2 w.heap.size (by omega) (by omega)).trans q0)
  have HQ1 := Lib.hid ((HS1.out.2 (w.heap.size + 1) (by omega) (by omega)).trans q1)
  have HQ2 := Lib.hid e2
  have hB2 : Below w.heap.size w ((w1.setCell ⟨w.heap.size + 1 + 1, 4, none⟩ (.int .i64 t.ty.kind)).setCell ⟨w.heap.size + 1 + 1, 5, none⟩ (.slice p1 t.ty.args.length c1)) :=
    ((HBL.out.trans (hb1.mono (by omega))).setCell (p := ⟨w.heap.size + 1 + 1, 4, none⟩) (by show w.heap.size ≤ w.heap.size + 1 + 1; omega) _).setCell (p := ⟨w.heap.size + 1 + 1, 5, none⟩) (by show w.heap.size ≤ w.heap.size + 1 + 1; omega) _
  have HB2 := Lib.hid hB2
  have HZ2 := Lib.hid (show ((w1.setCell ⟨w.heap.size + 1 + 1, 4, none⟩ (.int .i64 t.ty.kind)).setCell ⟨w.heap.size + 1 + 1, 5, none⟩ (.slice p1 t.ty.args.length c1)).heap.size = w1.heap.size by simp [World.setCell])
  have HC2 := Lib.hid (toT_any (C := C) (t := t.res) (v := .agg #[.int .i64 t.res.kind, .slice rp t.res.args.length rc]) ⟨_, rfl, HT.out.res.keep hB2⟩ n2)
  have L1 := Lib.hid hb1s
  clear q0 q1 q2 e2 st hB2 ho1 hb1 hb1s
  go_wp2_with fail
  refine HC2.out.mono ?_
  rintro e w2 ⟨v2, rfl, ⟨s2, rfl, ho2⟩, hb2⟩
  obtain ⟨p2, c2, rfl⟩ := ho2.form
  have hb2s := hb2.size
  rw [HZ2.out] at hb2 hb2s ho2
  have hl1 := L1.out
  have q0 := (hb2.block w.heap.size (by omega)).trans HQ0.out
  have q1 := (hb2.block (w.heap.size + 1) (by omega)).trans HQ1.out
  have q2 := (hb2.block (w.heap.size + 1 + 1) (by omega)).trans HQ2.out
  clear x6 x7 x8 y4 y5 yz
  obtain ⟨_, _, _, _, _, _, _, _, x8⟩ := Bx9.of q0
  have y6 : w2.cell? ⟨w.heap.size + 1 + 1, 6, none⟩ = some (.int .i64 0) := cell_of_blk q2 6
  have y7 : w2.cell? ⟨w.heap.size + 1 + 1, 7, none⟩ = some (.slice none 0 0) := cell_of_blk q2 7
  have yz := unfrozen_of_blk q2
  have e2 := heap_setCell_same _ _ 7 _ _ (.slice p2 t.res.args.length c2) (heap_setCell_same w2 _ 6 _ _ (.int .i64 t.res.kind) q2)
  have st : ∀ F : Nat → Prop, ¬ F (w.heap.size + 1 + 1) → Stays F w2 ((w2.setCell ⟨w.heap.size + 1 + 1, 6, none⟩ (.int .i64 t.res.kind)).setCell ⟨w.heap.size + 1 + 1, 7, none⟩ (.slice p2 t.res.args.length c2)) := fun F hF => (setCell_stays _ _ _ _ F hF).trans (setCell_stays _ _ _ _ F hF)
  have HS2 := Lib.hid (st (fun z => z ≠ w.heap.size + 1 + 1) (by simp))
  have HO12 := Lib.hid ((HO1.out.stays (.of_below (HZ2.out.symm ▸ hb2))).stays (st _ (by omega)))
  have HO2 := Lib.hid (ho2.stays (st _ (by omega)))
  have HP0 := Lib.hid ((HS2.out.2 w.heap.size (by omega) (by omega)).trans q0)
  have HP1 := Lib.hid ((HS2.out.2 (w.heap.size + 1) (by omega) (by omega)).trans q1)
  have HP2 := Lib.hid e2
  have hB3 : Below w.heap.size w ((w2.setCell ⟨w.heap.size + 1 + 1, 6, none⟩ (.int .i64 t.res.kind)).setCell ⟨w.heap.size + 1 + 1, 7, none⟩ (.slice p2 t.res.args.length c2)) :=
    ((HB2.out.trans (hb2.mono (by omega))).setCell (p := ⟨w.heap.size + 1 + 1, 6, none⟩) (by show w.heap.size ≤ w.heap.size + 1 + 1; omega) _).setCell (p := ⟨w.heap.size + 1 + 1, 7, none⟩) (by show w.heap.size ≤ w.heap.size + 1 + 1; omega) _
  have HB3 := Lib.hid hB3
  have HZ3 := Lib.hid (show ((w2.setCell ⟨w.heap.size + 1 + 1, 6, none⟩ (.int .i64 t.res.kind)).setCell ⟨w.heap.size + 1 + 1, 7, none⟩ (.slice p2 t.res.args.length c2)).heap.size = w2.heap.size by simp [World.setCell])
  have HC3 := Lib.hid (HH.out _ hB3)
  have L2 := Lib.hid hb2s
  clear q0 q1 q2 e2 st hB3 ho2 hb2 hb2s hl1
  go_wp2_with fail
  refine HC3.out.mono ?_
  rintro e w3 ⟨v3, rfl, ho3, hb3⟩
  obtain ⟨p3, c3, rfl⟩ := ho3.form
  have hb3s := hb3.size
  rw [HZ3.out] at hb3 hb3s ho3
  have hl1 := L1.out
  have hl2 := L2.out
  have q1 := (hb3.block (w.heap.size + 1) (by omega)).trans HP1.out
  have q2 := (hb3.block (w.heap.size + 1 + 1) (by omega)).trans HP2.out
  clear x8 y6 y7 yz
  have y0 : w3.cell? ⟨w.heap.size + 1 + 1, 0, none⟩ = some (.int .i64 t.kind) := cell_of_blk q2 0
  have y1 : w3.cell? ⟨w.heap.size + 1 + 1, 1, none⟩ = some (.string t.name) := cell_of_blk q2 1
  have y2 : w3.cell? ⟨w.heap.size + 1 + 1, 2, none⟩ = some (.string t.other) := cell_of_blk q2 2
  have y3 : w3.cell? ⟨w.heap.size + 1 + 1, 3, none⟩ = some (.int .i64 t.n) := cell_of_blk q2 3
  have y4 : w3.cell? ⟨w.heap.size + 1 + 1, 4, none⟩ = some (.int .i64 t.ty.kind) := cell_of_blk q2 4
  have y5 : w3.cell? ⟨w.heap.size + 1 + 1, 5, none⟩ = some (.slice p1 t.ty.args.length c1) := cell_of_blk q2 5
  have y6 : w3.cell? ⟨w.heap.size + 1 + 1, 6, none⟩ = some (.int .i64 t.res.kind) := cell_of_blk q2 6
  have y7 : w3.cell? ⟨w.heap.size + 1 + 1, 7, none⟩ = some (.slice p2 t.res.args.length c2) := cell_of_blk q2 7
  have y8 : w3.cell? ⟨w.heap.size + 1 + 1, 8, none⟩ = some (.slice none 0 0) := cell_of_blk q2 8
  have yz := unfrozen_of_blk q2
  have z0 : w3.cell? ⟨w.heap.size + 1, 0, none⟩ = some (.int .i64 0) := cell_of_blk q1 0
  have z1 : w3.cell? ⟨w.heap.size + 1, 1, none⟩ = some (.string ⟨#[]⟩) := cell_of_blk q1 1
  have z2 : w3.cell? ⟨w.heap.size + 1, 2, none⟩ = some (.string ⟨#[]⟩) := cell_of_blk q1 2
  have z3 : w3.cell? ⟨w.heap.size + 1, 3, none⟩ = some (.int .i64 0) := cell_of_blk q1 3
  have z4 : w3.cell? ⟨w.heap.size + 1, 4, none⟩ = some (.int .i64 0) := cell_of_blk q1 4
  have z5 : w3.cell? ⟨w.heap.size + 1, 5, none⟩ = some (.slice none 0 0) := cell_of_blk q1 5
  have z6 : w3.cell? ⟨w.heap.size + 1, 6, none⟩ = some (.int .i64 0) := cell_of_blk q1 6
  have z7 : w3.cell? ⟨w.heap.size + 1, 7, none⟩ = some (.slice none 0 0) := cell_of_blk q1 7
  have z8 : w3.cell? ⟨w.heap.size + 1, 8, none⟩ = some (.slice none 0 0) := cell_of_blk q1 8
  have zz := unfrozen_of_blk q1
  have hb3' : Below _ _ w3 := HZ3.out.symm ▸ hb3
  have HFIN := Lib.hid (OSt9 (t := t) (F := fun g => w.heap.size + 3 ≤ g ∧ g < w3.heap.size) (HO12.out.keep hb3') (HO2.out.keep hb3') ho3 (fun z hz => by omega) (fun z hz => by omega) (fun z hz => by omega))
  have HB4 := Lib.hid (HB3.out.trans (hb3'.mono HB3.out.size))
  clear q1 q2 ho3 hb3 hb3' hb3s hl1 hl2
  go_wp2_with fail
  refine bodyPost_ret (v := tmV t p1 c1 p2 c2 p3 c3) ?_ rfl ?_
  · rw [results_cell1 rfl]
    go_simp
  · refine ⟨_, rfl, ⟨p1, c1, p2, c2, p3, c3, rfl, OSt.mono (OSt.stays HFIN.out ?_) (fun z hz => ⟨by omega, ?_⟩)⟩, ?_⟩
    · iterate 10 (refine Stays.trans ?_ (setCell_stays _ _ _ _ _ (by omega)))
      exact Stays.refl _ _
    · have := hz.2
      simp [World.setCell]
      omega
    iterate 10 (refine Below.setCell ?_ (by dsimp only; omega) _)
    exact HB4.out
end Go.Proofs.YtfeijijeohfpgaaDoor
namespace Go.Proofs.YtfeijijeohfpgaaDoor
open Go Go.RowKit

theorem setN9 (w : World) (b o : Nat) (v0 v1 v2 v3 v4 v5 v6 v7 v8 : Value) : setN w b o [v0, v1, v2, v3, v4, v5, v6, v7, v8] =
    ((((((((w.setCell ⟨b, o, none⟩ v0).setCell ⟨b, o + 1, none⟩ v1).setCell ⟨b, o + 2, none⟩ v2).setCell ⟨b, o + 3, none⟩ v3).setCell ⟨b, o + 4, none⟩ v4).setCell ⟨b, o + 5, none⟩ v5).setCell ⟨b, o + 6, none⟩ v6).setCell ⟨b, o + 7, none⟩ v7).setCell ⟨b, o + 8, none⟩ v8 := rfl

set_option maxRecDepth 100000 in
set_option maxHeartbeats 2000000 in
theorem toMS_any {w0 : World} {C : Nat → Prop} {ts : List Tm} {v : Value} (h : DM w0 C (tmD ts) v) : ∀ (w : World), Stays C w0 w → wtS ts ≤ 1048576 → Calls Tryd.prog 34 #[v] w (NewMS ts w) := by
  obtain ⟨i0, hi, hz0, hz1, hz2⟩ := info_parts infoTm
  refine tm_ind (motive := fun ts v => ∀ (w : World), Stays C w0 w → wtS ts ≤ 1048576 → Calls Tryd.prog 34 #[v] w (NewMS ts w)) ?_ _ (Nat.le_refl _) h
  intro ts q d hlen H w hst hn
  have hge := wtS_ge ts
  have HH := Lib.hid H
  have HST := Lib.hid hst
  clear H hst
  go_enter Tryd.func34, Tryd.ntmps34
  go_wp2_with (at_make; refine wpList_make_full _ rfl _ _ 33 rfl w.heap.size 35 i0 _ 9 Tryd.underlying33 hi hz0 hz1 .i64 .i64 _ _ ts.length rfl rfl rfl rfl ?c1 ?c2 ?c3 ?_)
  case c1 => rw [hz2]; omega
  case c2 => unfold maxLen; omega
  case c3 => exact Nat.le_refl _
  intro w1 hown0 hg
  have hb1 : Below w.heap.size w w1 := (Below.refl _ _).grown hg (Nat.le_refl _) (fun k h => by cases h)
  have HO := Lib.hid (FilD.start (ds := flatTm ts) hown0)
  clear hown0 hg
  go_wp2_with fail
  go_loopw [4] (fun i wr => ∃ k : Nat, k ≤ ts.length ∧ i = .int .i64 k ∧ FilD wr w.heap.size 35 9 ts.length ts.length (flatTm ts) k ∧ Below w.heap.size w wr) (fun i _ => ts.length - (intOf i).toNat)
  case atStart => exact ⟨0, Nat.zero_le _, rfl, HO.out, hb1⟩
  case round =>
    obtain ⟨k, hk, rfl, hfill, hbr⟩ := hrel
    have HFI := Lib.hid hfill
    have HB := Lib.hid hbr
    have HSR := Lib.hid (HST.out.trans (Stays.of_below (C := C) hbr))
    clear hb1 hfill hbr
    by_cases hlk : k < ts.length
    · obtain ⟨b, o, tp, tc, rp, rc, p, c, rfl, hC, hb, h9, hT, hI⟩ := HH.out k hlk
      obtain ⟨g0, g1, g2, g3, g4, g5, g6, g7, g8⟩ := h9 wr HSR.out
      have hwk := wtS_at ts k hlk
      have hwe := ts[k].wt_eq
      have HC := Lib.hid (toM_of (C := C) (hT.stays HSR.out) (by omega) (fun w' hw' => hI w' (HSR.out.trans (.of_below hw')) (by omega)))
      have i0 : (0 : Int) ≤ (k : Int) := Int.natCast_nonneg _
      have i1 : (k : Int) < (ts.length : Int) := by omega
      clear hC hb h9 hT hI hwk hwe
      go_wp2_with fail
      refine HC.out.mono ?_
      rintro e w2 ⟨v, rfl, ⟨tp2, tc2, rp2, rc2, p2, c2, rfl, hos⟩, hb2⟩
      obtain ⟨hrow, hgo⟩ := HFI.out.next hb2 hlk ts[k].ds_len (fun i hi => flatTm_at ts k i hlk hi) hos
      obtain ⟨q0, x0⟩ := hrow 0 (by omega)
      obtain ⟨q1, x1⟩ := hrow 1 (by omega)
      obtain ⟨q2, x2⟩ := hrow 2 (by omega)
      obtain ⟨q3, x3⟩ := hrow 3 (by omega)
      obtain ⟨q4, x4⟩ := hrow 4 (by omega)
      obtain ⟨q5, x5⟩ := hrow 5 (by omega)
      obtain ⟨q6, x6⟩ := hrow 6 (by omega)
      obtain ⟨q7, x7⟩ := hrow 7 (by omega)
      obtain ⟨q8, x8⟩ := hrow 8 (by omega)
      rw [Nat.add_zero] at x0
      have z1 := fun i => HFI.out.frz hb2 i
      have hb3 := (HB.out.trans (hb2.mono HB.out.size)).trans (setN_below (tmL ts[k] tp2 tc2 rp2 rc2 p2 c2) w.heap.size w2 w.heap.size (k * 9) (Nat.le_refl _))
      rw [setN9] at hgo hb3
      have HN := Lib.hid hgo
      have HB2 := Lib.hid hb3
      clear hgo hos hb2 hb3 hrow g0 g1 g2 g3 g4 g5 g6 g7 g8
      go_wp2_with fail
      go_roundw
      case rel => exact ⟨k + 1, by omega, by go_num, HN.out, HB2.out⟩
      case measure => simp [intOf]; omega
    · obtain rfl : k = ts.length := by omega
      go_wp2_with fail
      go_ret
      exact ⟨_, rfl, HFI.out.full (flatTm_len ts) (by unfold maxLen; omega), HB.out⟩
theorem toM_any {C : Nat → Prop} {t : Tm} {v : Value} {w : World} (h : TM w C t v) (hn : t.wt ≤ 1048576) : Calls Tryd.prog 12 #[v] w (NewM t w) := by
  obtain ⟨tp, tc, rp, rc, p, c, rfl, hT⟩ := h
  have hwe := t.wt_eq
  exact toM_of hT hn (fun w' hb => toMS_any hT.args w' (.of_below hb) (by omega))
end Go.Proofs.YtfeijijeohfpgaaDoor
namespace Go.Proofs.YtfeijijeohfpgaaDoor
open Go Go.RowKit
def Holds (Cb : Nat → Prop) (w w' : World) : Prop := w.heap.size ≤ w'.heap.size ∧ ∀ b, b < w.heap.size → ¬ Cb b → w'.heap[b]? = w.heap[b]?
theorem Holds.refl (Cb : Nat → Prop) (w : World) : Holds Cb w w := ⟨Nat.le_refl _, fun _ _ _ => rfl⟩
theorem Holds.trans {Cb : Nat → Prop} {a b c : World} (h : Holds Cb a b) (k : Holds Cb b c) : Holds Cb a c :=
  ⟨Nat.le_trans h.1 k.1, fun i hi hc => (k.2 i (Nat.lt_of_lt_of_le hi h.1) hc).trans (h.2 i hi hc)⟩
theorem Holds.of_below {Cb : Nat → Prop} {w w' : World} (h : Below w.heap.size w w') : Holds Cb w w' := ⟨h.size, fun b hb _ => h.block b hb⟩
theorem Holds.setCell {Cb : Nat → Prop} {w w' : World} (h : Holds Cb w w') (p : Addr) (hp : Cb p.block) (v : Value) : Holds Cb w (w'.setCell p v) :=
  h.trans ⟨((Below.refl p.block w').setCell (Nat.le_refl _) v).size, fun b _ hc => Below.heap_setCell _ _ _ _ (fun e => hc (by rw [e]; exact hp))⟩
def SeqT {α β : Type} (F : Fence) (n : Nat) (P : Program) (g : Nat) (lb : Array Value) (encs : α → Array Value) (key : α → β) (Good : α → World → Prop) (Cb : Nat → Prop) (all : List β) (w : World) : Prop :=
  ∀ (l : Nat) (J Jx : List β → World → Prop) (W : World), Below w.heap.size w W → (∀ pre A B, J pre A → Below W.heap.size A B → J pre B) →
    (∀ pre x W1, J pre W1 → pre ++ [key x] <+: all → Good x W1 → YieldAt F (n - 1) P l (encs x) W1 fun e W' =>
      (e = .returned (.bool true) ∧ J (pre ++ [key x]) W' ∧ Holds Cb W1 W') ∨ (e = .returned (.bool false) ∧ Jx (pre ++ [key x]) W')) →
    J [] W →
    CallsIn F n P g (#[.func (.yield l) #[] #[]] ++ lb) W fun e W' => (∃ v, e = .returned v) ∧ (J all W' ∨ ∃ pre, pre <+: all ∧ Jx pre W')
def postT {β : Type} (Cb : Nat → Prop) (I : List β → World → Prop) (Ix : Code → List β → World → Prop) (xs : List β) (W : World) : Exit → Act → World → Prop
  | .normal, _, W' => Holds Cb W W' ∧ I xs W'
  | .ret, _, W' => Holds Cb W W' ∧ Ix .ret xs W'
  | .exit id, _, W' => Holds Cb W W' ∧ Ix (.exit id) xs W'
  | .goto t, _, W' => Holds Cb W W' ∧ Ix (.goto t) xs W'
  | .panic _, _, _ => False
  | .outgrown, _, _ => False

theorem below_putObj (n : Nat) (W : World) (l : Nat) (o : Obj) (h : n ≤ l) : Below n W (W.putObj l o) :=
  ⟨rfl, rfl, rfl, by simp, fun k hk => World.putObj_heap_other (by omega)⟩

variable {F : Fence} {n : Nat} {P : Program}
theorem range_law {α β : Type} {g : Operand} {ps : Array Tmp} {assign body : Code} {Q : Exit → Act → World → Prop} {a : Act} {w : World}
    (hro : F.round = none) (h1 : 1 ≤ n) {gf : Nat} {lb : Array Value} (hg : a.eval g = .func (.func gf) #[] lb) (hFg : F.fn gf) (eg : ∀ args w, (callFunc gf args).run P w = .ok (.enter gf args) w)
    {encs : α → Array Value} {key : α → β} {Good : α → World → Prop} {Cb : Nat → Prop} {all : List β} (hseq : SeqT F (n - 1) P gf lb encs key Good Cb all w) (hps : ∀ x, (encs x).size = ps.size) (hCb : ∀ b, Cb b → b < w.heap.size)
    (I : List β → World → Prop) (Ix : Code → List β → World → Prop) (hI : ∀ pre A B, I pre A → Below w.heap.size A B → I pre B) (hIx : ∀ c pre A B, Ix c pre A → Below w.heap.size A B → Ix c pre B)
    (hG : ∀ x A B, Good x A → Below w.heap.size A B → Good x B) (h0 : I [] w)
    (Ax : α → Act → World → Prop) (hAx : ∀ x a' W l r o, Ax x a' W → W.heap[l]? = some (.loop r) → Ax x a' (W.putObj l o))
    (hassign : ∀ (l : Nat) (x : α) (W : World) (K : Act → World → Prop), Good x W → (∀ a' W', Below W.heap.size W W' → Ax x a' W' → K a' W') →
      assign.wpIn (F.inRound l) (n - 1 - 1) P (Exit.then K (fun _ _ _ => False)) { tmps := (ps.zip (encs x)).foldl (fun t (p, v) => t.setIfInBounds p v) a.tmps, defers := [] } W)
    (hbody : ∀ (l : Nat) (pre : List β) (x : α) (a' : Act) (W : World), I pre W → pre ++ [key x] <+: all → Good x W → Ax x a' W → body.wpIn (F.inRound l) (n - 1 - 1) P (postT Cb I Ix (pre ++ [key x]) W) a' W)
    (hdone : ∀ (D : Nat) (W : World), w.heap.size ≤ D → I all W → W.heap[D]? = some (.deferred (some [])) → Q .normal { a with defers := { target := .collected D, args := #[] } :: a.defers } W)
    (hstop : ∀ (D : Nat) (c : Code) (pre : List β) (W : World), w.heap.size ≤ D → pre <+: all → Ix c pre W → W.heap[D]? = some (.deferred (some [])) → c.wpIn F n P Q { a with defers := { target := .collected D, args := #[] } :: a.defers } W) :
    (Code.rangeFunc g ps assign body).wpIn F n P Q a w := by
  refine wpIn_rangeFunc (fun fn hfn => ?_)
  rw [hro]
  -- the record of the loop, in its three states
  let rec_ : LoopState → Option Code → Loop := fun st pe => { state := st, pending := pe, fn, tmps := a.tmps, params := ps, assign, body, defers := w.heap.size }
  let w1 := (w.alloc (.deferred (some []))).alloc (.loop (rec_ .ready none))
  have hs1 : w1.heap.size = w.heap.size + 2 := by simp [w1]
  have hb1 : Below w.heap.size w w1 := ((Below.refl _ w).alloc (Nat.le_refl _) _).alloc (by simp) _
  have hl1 : w1.heap[w.heap.size + 1]? = some (.loop (rec_ .ready none)) := by
    have := World.alloc_heap_new (w.alloc (.deferred (some []))) (.loop (rec_ .ready none))
    rwa [World.size_alloc] at this
  have hd1 : w1.heap[w.heap.size]? = some (.deferred (some [])) := (Below.heap_alloc _ _ _ (by simp)).trans (World.alloc_heap_new w _)
  refine ⟨w.heap.size + 1, [{ target := .collected w.heap.size, args := #[] }], w1, { target := .fn (.func gf) lb, args := #[.func (.yield (w.heap.size + 1)) #[] #[]] }, w1, gf,
    #[.func (.yield (w.heap.size + 1)) #[] #[]] ++ lb, w1, run_enterLoop_outer _ _ _ _ _, by simp only [resolve, hg]; simp [go_sem], fun f' hf' => by simp [Target.leads] at hf'; subst hf'; exact hFg, by simp [invoke, go_sem, eg], fun _ => h1, ?_⟩
  have still : ∀ {A B : World} {k : Nat} {o : Obj}, Below w1.heap.size A B → k < w1.heap.size → A.heap[k]? = some o → B.heap[k]? = some o := fun hb hk h => (hb.block _ hk).trans h
  refine (hseq (w.heap.size + 1)
    (fun pre W => I pre W ∧ W.heap[w.heap.size + 1]? = some (.loop (rec_ .ready none)) ∧ W.heap[w.heap.size]? = some (.deferred (some [])))
    (fun pre W => ∃ c, Ix c pre W ∧ W.heap[w.heap.size + 1]? = some (.loop (rec_ .done (some c))) ∧ W.heap[w.heap.size]? = some (.deferred (some [])))
    w1 hb1 (fun pre A B h hb => ⟨hI pre A B h.1 (hb.mono (by omega)), still hb (by omega) h.2.1, still hb (by omega) h.2.2⟩) ?_ ⟨hI _ _ _ h0 hb1, hl1, hd1⟩).mono ?_
  · -- one round
    rintro pre x W ⟨hi, hl, hd⟩ hpre hgood
    have hy := run_yield (P := P) (args := encs x) hl (hps x)
    refine ⟨fn, _, assign, body, hy, roundIn_of_wpIn hfn (hassign _ x W _ hgood (fun a' Wa hba hax => ?_))⟩
    have hlt : w.heap.size + 1 < W.heap.size := (Array.getElem?_eq_some_iff.1 hl).1
    have hla : Wa.heap[w.heap.size + 1]? = some (.loop (rec_ .ready none)) := (hba.block _ hlt).trans hl
    have hda : Wa.heap[w.heap.size]? = some (.deferred (some [])) := (hba.block _ (by omega)).trans hd
    refine ⟨_, run_beginRound hla rfl, ?_⟩
    have hlta : w.heap.size + 1 < Wa.heap.size := (Array.getElem?_eq_some_iff.1 hla).1
    let busy : Loop := { rec_ .ready none with state := .busy }
    let Wb := Wa.putObj (w.heap.size + 1) (.loop busy)
    have hbb : Below w.heap.size Wa Wb := below_putObj _ _ _ _ (by omega)
    have hlb : Wb.heap[w.heap.size + 1]? = some (.loop busy) := World.putObj_heap_same hlta
    have hdb : Wb.heap[w.heap.size]? = some (.deferred (some [])) := (World.putObj_heap_other (by omega)).trans hda
    have hbwb := (hba.mono (Nat.le_of_lt (by omega : w.heap.size < W.heap.size))).trans hbb
    refine wpIn_mono (hbody _ pre x a' Wb (hI _ _ _ hi hbwb) hpre (hG _ _ _ hgood hbwb) (hAx _ _ _ _ _ _ hax hla)) ?_
    have fin : ∀ (jump : Option Code) (W3 : World), Holds Cb Wb W3 →
        (Instr.endRound (w.heap.size + 1) jump).run P W3 = .ok (.bool jump.isNone) (W3.putObj (w.heap.size + 1) (.loop (rec_ (if jump.isNone then .ready else .done) jump))) ∧
        Below w.heap.size W3 (W3.putObj (w.heap.size + 1) (.loop (rec_ (if jump.isNone then .ready else .done) jump))) ∧
        (W3.putObj (w.heap.size + 1) (.loop (rec_ (if jump.isNone then .ready else .done) jump))).heap[w.heap.size + 1]? = some (.loop (rec_ (if jump.isNone then .ready else .done) jump)) ∧
        (W3.putObj (w.heap.size + 1) (.loop (rec_ (if jump.isNone then .ready else .done) jump))).heap[w.heap.size]? = some (.deferred (some [])) := fun jump W3 hk => by
      have hwb : Wb.heap.size = Wa.heap.size := by simp [Wb]
      have h3 : W3.heap[w.heap.size + 1]? = some (.loop busy) := (hk.2 _ (by omega) (fun hc => by have := hCb _ hc; omega)).trans hlb
      have hd3 : W3.heap[w.heap.size]? = some (.deferred (some [])) := (hk.2 _ (by omega) (fun hc => by have := hCb _ hc; omega)).trans hdb
      exact ⟨run_endRound (P := P) jump h3, below_putObj _ _ _ _ (by omega), World.putObj_heap_same (Array.getElem?_eq_some_iff.1 h3).1, (World.putObj_heap_other (by omega)).trans hd3⟩
    have whole : ∀ W3, Holds Cb Wb W3 → Holds Cb W (W3.putObj (w.heap.size + 1) (.loop (rec_ .ready none))) := fun W3 hk => by
      have hwb : Wb.heap.size = Wa.heap.size := by simp [Wb]
      have hsz := hba.size
      refine ⟨by have := hk.1; simp; omega, fun b hb hc => ?_⟩
      by_cases e : b = w.heap.size + 1
      · subst e
        rw [World.putObj_heap_same (by have := hk.1; omega)]; exact hl.symm
      · rw [World.putObj_heap_other e, hk.2 b (by omega) hc, World.putObj_heap_other e, hba.block b hb]
    rintro e a3 W3 hp
    cases e with
    | normal =>
      obtain ⟨hk, hi3⟩ := hp
      obtain ⟨hr, hb3, hl3, hd3⟩ := fin none W3 hk
      exact ⟨_, _, hr, .inl ⟨rfl, ⟨hI _ _ _ hi3 hb3, hl3, hd3⟩, whole W3 hk⟩⟩
    | ret =>
      obtain ⟨hk, hi3⟩ := hp
      obtain ⟨hr, hb3, hl3, hd3⟩ := fin (some .ret) W3 hk
      exact ⟨_, _, hr, .inr ⟨rfl, .ret, hIx _ _ _ _ hi3 hb3, hl3, hd3⟩⟩
    | exit id =>
      obtain ⟨hk, hi3⟩ := hp
      obtain ⟨hr, hb3, hl3, hd3⟩ := fin (some (.exit id)) W3 hk
      exact ⟨_, _, hr, .inr ⟨rfl, .exit id, hIx _ _ _ _ hi3 hb3, hl3, hd3⟩⟩
    | goto t =>
      obtain ⟨hk, hi3⟩ := hp
      obtain ⟨hr, hb3, hl3, hd3⟩ := fin (some (.goto t)) W3 hk
      exact ⟨_, _, hr, .inr ⟨rfl, .goto t, hIx _ _ _ _ hi3 hb3, hl3, hd3⟩⟩
    | panic ch => exact hp.elim
    | outgrown => exact hp.elim
  · -- the iterator has returned
    rintro e W2 ⟨⟨v, rfl⟩, (⟨hi, hl, hd⟩ | ⟨pre, hpre, c, hi, hl, hd⟩)⟩
    · exact ⟨none, _, run_endLoop (P := P) hl (by simp [rec_]), hdone _ _ (Nat.le_refl _) (hI _ _ _ hi (below_putObj _ _ _ _ (by omega))) ((World.putObj_heap_other (by omega)).trans hd)⟩
    · exact ⟨some c, _, run_endLoop (P := P) hl (by simp [rec_]), hstop _ c pre _ (Nat.le_refl _) hpre (hIx _ _ _ _ hi (below_putObj _ _ _ _ (by omega))) ((World.putObj_heap_other (by omega)).trans hd)⟩
end Go.Proofs.YtfeijijeohfpgaaDoor
namespace Go.Proofs.YtfeijijeohfpgaaDoor
open Go Go.RowKit

end Go.Proofs.YtfeijijeohfpgaaDoor
namespace Go.Proofs.YtfeijijeohfpgaaDoor
open Go Go.RowKit


set_option maxRecDepth 100000 in
theorem max_any (a b : Int) (w : World) : Calls Tryd.prog 64 #[.int .i64 a, .int .i64 b] w fun e w' => e = .returned (.int .i64 (max a b)) ∧ w' = w := by
  go_enter Tryd.func64, Tryd.ntmps64
  by_cases h : b < a
  · go_wp2
    go_ret
    exact ⟨congrArg (fun z => Ending.returned (.int .i64 z)) (Int.max_eq_left (by omega)).symm, rfl⟩
  · go_wp2
    go_ret
    exact ⟨congrArg (fun z => Ending.returned (.int .i64 z)) (Int.max_eq_right (by omega)).symm, rfl⟩

theorem form_false {q : Int} {ts : List Ty} {k : Nat} (h : k < ts.length) (hf : ts[k].form = false) : (Ty.mk q ts).form = false := by
  have e : formS ts = false := by
    rw [← List.take_append_drop (k + 1) ts, formS_append, take_next h, formS_append]
    simp [formS, hf]
  simp [Ty.form, e]
theorem form_kind {q : Int} {ts : List Ty} {b : Bool} (h : formS ts = true) (hb : b = (if q = 1 ∨ q = 2 then ts.length == 0 else if q = 3 then ts.length == 2 else q == 4 && ts.length == 1)) : b = (Ty.mk q ts).form := by
  rw [Ty.form, h, hb, Bool.true_and]
theorem beq_0 (n : Nat) : ((n : Int) == 0) = (n == 0) := by rw [Bool.eq_iff_iff]; simp only [beq_iff_eq]; omega
theorem beq_1 (n : Nat) : ((n : Int) == 1) = (n == 1) := by rw [Bool.eq_iff_iff]; simp only [beq_iff_eq]; omega
theorem beq_2 (n : Nat) : ((n : Int) == 2) = (n == 2) := by rw [Bool.eq_iff_iff]; simp only [beq_iff_eq]; omega
def LeftEnds (left : Int) (n : Nat) (r : Int) : Prop := (0 ≤ r ∧ r + n = left) ∨ (r < 0 ∧ -1 ≤ r ∧ left < n) ∨ (r = -1 ∧ left = -1)
theorem LeftEnds.range {left : Int} {n : Nat} {r : Int} (h : LeftEnds left n r) (hl : -1 ≤ left) : -1 ≤ r ∧ r ≤ left := by
  unfold LeftEnds at h
  omega
theorem leftEnds_start {left : Int} (h : 0 ≤ left) : LeftEnds (left - 1) (nodesS ([] : List Ty)) (left - 1) := by
  unfold LeftEnds; simp only [nodesS]; omega
theorem LeftEnds.stop {left L : Int} {ts : List Ty} {k : Nat} (h : LeftEnds (left - 1) (nodesS (ts.take k)) L) (hn : L < 0) (_ : nodesS (ts.take (k + 1)) ≤ nodesS ts) : LeftEnds left (1 + nodesS ts) L := by
  have := nodesS_take_le ts k
  unfold LeftEnds at *; omega
theorem LeftEnds.next {left L r : Int} {n m : Nat} (h : LeftEnds (left - 1) n L) (hr : LeftEnds L m r) (h0 : 0 ≤ L) : LeftEnds (left - 1) (n + m) r := by
  unfold LeftEnds at *; omega
theorem LeftEnds.full {left L : Int} {n : Nat} (h : LeftEnds (left - 1) n L) : LeftEnds left (1 + n) L := by
  unfold LeftEnds at *; omega

set_option maxRecDepth 100000 in
set_option maxHeartbeats 1000000 in
theorem depth_any {w0 : World} {C : Nat → Prop} {ts : List Ty} {v : Value} (h : TS w0 C ts v) : ∀ (w : World) (q : Int), Stays C w0 w → nodesS ts ≤ 2097152 → Calls Tryd.prog 103 #[.agg #[.int .i64 q, v]] w (IntRet (fun r => r = ((1 + depthS ts : Nat) : Int)) w) := by
  refine TS.ind (motive := fun ts v => ∀ (w : World) (q : Int), Stays C w0 w → nodesS ts ≤ 2097152 → Calls Tryd.prog 103 #[.agg #[.int .i64 q, v]] w (IntRet (fun r => r = ((1 + depthS ts : Nat) : Int)) w)) ?_ h
  intro ts p c hl H w q hst hn
  have HH := Lib.hid H
  have HST := Lib.hid hst
  have hlen := nodesS_ge ts
  clear H hst
  go_enter Tryd.func103, Tryd.ntmps103
  go_wp2_with fail
  go_loopw [3, 4] (fun n i wr => ∃ (k : Nat), k ≤ ts.length ∧ i = .int .i64 k ∧ n = .int .i64 ((depthS (ts.take k) : Nat) : Int) ∧ Below (w.alloc (.cells #[.int .i64 q, .slice p ts.length c] 32)).heap.size (w.alloc (.cells #[.int .i64 q, .slice p ts.length c] 32)) wr) (fun _ i _ => ts.length - (intOf i).toNat)
  case atStart => exact ⟨0, Nat.zero_le _, rfl, by simp [depthS], Below.refl _ _⟩
  case round =>
    obtain ⟨k, hk, rfl, rfl, hbr⟩ := hrel
    have HB := Lib.hid hbr
    obtain ⟨d0, d1⟩ := box2 hbr
    clear hbr
    by_cases hlk : k < ts.length
    · obtain ⟨b, o, p', c', rfl, hcs, hT, hI⟩ := HH.out k _ (List.getElem?_eq_getElem hlk)
      have hsr := HST.out.trans (Stays.of_below (C := C) (below_box HB.out))
      obtain ⟨c1, c2⟩ := hcs wr hsr
      have n1 := nodesS_take_next ts k hlk
      have n2 := nodesS_take_le ts (k + 1)
      have n3 := ts[k].nodes_eq
      have m1 := depthS_at ts k hlk
      have m2 := depthS_take_next ts k hlk
      have m3 := depth_at ts[k]
      have b1 : depthS (ts.take k) ≤ 2097152 := by omega
      have b2 : 1 + depthS ts[k].args ≤ 2097152 := by omega
      have HM2 := Lib.hid m2
      have HM3 := Lib.hid m3
      clear m1 m2 m3
      have HC := Lib.hid (hI wr ts[k].kind hsr (by omega))
      have HN1 := Lib.hid n1
      have HN2 := Lib.hid n2
      have HN3 := Lib.hid n3
      clear hcs hT hI hsr n1 n2 n3
      go_wp2_with fail
      refine HC.out.mono ?_
      rintro e w1 ⟨r, hr, rfl, hb1⟩
      have HB1 := Lib.hid (HB.out.trans (hb1.mono HB.out.size))
      clear hb1
      subst hr
      go_wp2_with fail
      refine (max_any _ _ _).mono ?_
      rintro e w2 ⟨rfl, rfl⟩
      go_wp2_with fail
      go_roundw
      case rel => exact ⟨k + 1, by omega, by go_num, by have h1 := HM2.out; have h2 := HM3.out; rw [h1, h2]; go_num, HB1.out⟩
      case measure => simp [intOf]; omega
    · obtain rfl : k = ts.length := by omega
      rw [List.take_length]
      have b3 := depthS_nodes ts
      go_wp2_with fail
      go_ret
      exact ⟨_, rfl, by go_num, below_box HB.out⟩

set_option maxRecDepth 100000 in
set_option maxHeartbeats 1000000 in
theorem form_any {w0 : World} {C : Nat → Prop} {ts : List Ty} {v : Value} (h : TS w0 C ts v) : ∀ (w : World) (q : Int), Stays C w0 w → nodesS ts ≤ 2097152 → Calls Tryd.prog 104 #[.agg #[.int .i64 q, v]] w (BoolRet (fun r => r = (Ty.mk q ts).form) w) := by
  refine TS.ind (motive := fun ts v => ∀ (w : World) (q : Int), Stays C w0 w → nodesS ts ≤ 2097152 → Calls Tryd.prog 104 #[.agg #[.int .i64 q, v]] w (BoolRet (fun r => r = (Ty.mk q ts).form) w)) ?_ h
  intro ts p c hl H w q hst hn
  have HH := Lib.hid H
  have HST := Lib.hid hst
  have hlen := nodesS_ge ts
  clear H hst
  go_enter Tryd.func104, Tryd.ntmps104
  go_wp2_with fail
  go_loopw [3] (fun i wr => ∃ (k : Nat), k ≤ ts.length ∧ i = .int .i64 k ∧ formS (ts.take k) = true ∧ Below (w.alloc (.cells #[.int .i64 q, .slice p ts.length c] 32)).heap.size (w.alloc (.cells #[.int .i64 q, .slice p ts.length c] 32)) wr) (fun i _ => ts.length - (intOf i).toNat)
  case atStart => exact ⟨0, Nat.zero_le _, rfl, by simp [formS], Below.refl _ _⟩
  case round =>
    obtain ⟨k, hk, rfl, hfm, hbr⟩ := hrel
    have HB := Lib.hid hbr
    obtain ⟨d0, d1⟩ := box2 hbr
    clear hbr
    by_cases hlk : k < ts.length
    · obtain ⟨b, o, p', c', rfl, hcs, hT, hI⟩ := HH.out k _ (List.getElem?_eq_getElem hlk)
      have hsr := HST.out.trans (Stays.of_below (C := C) (below_box HB.out))
      obtain ⟨c1, c2⟩ := hcs wr hsr
      have n1 := nodesS_take_next ts k hlk
      have n2 := nodesS_take_le ts (k + 1)
      have n3 := ts[k].nodes_eq
      have HM := Lib.hid hfm
      clear hfm
      have HC := Lib.hid (hI wr ts[k].kind hsr (by omega))
      have HN1 := Lib.hid n1
      have HN2 := Lib.hid n2
      have HN3 := Lib.hid n3
      clear hcs hT hI hsr n1 n2 n3
      go_wp2_with fail
      refine HC.out.mono ?_
      rintro e w1 ⟨r, hr, rfl, hb1⟩
      have HB1 := Lib.hid (HB.out.trans (hb1.mono HB.out.size))
      clear hb1
      have HR := Lib.hid hr
      clear hr
      cases r with
      | true =>
        go_wp2_with fail
        go_roundw
        case rel => exact ⟨k + 1, by omega, by go_num, by rw [take_next hlk, formS_append, HM.out]; simpa [formS, ← Ty.eta] using HR.out.symm, HB1.out⟩
        case measure => simp [intOf]; omega
      | false =>
        go_wp2_with fail
        go_ret
        exact ⟨false, (form_false hlk (by rw [Ty.eta ts[k]]; exact HR.out.symm)).symm, rfl, below_box HB1.out⟩
    · obtain rfl : k = ts.length := by omega
      rw [List.take_length] at hfm
      have HM := Lib.hid hfm
      clear hfm
      by_cases q1 : q = 1
      · subst q1
        go_wp2_with fail
        go_ret
        exact ⟨_, form_kind HM.out (by simp [beq_0]), rfl, below_box HB.out⟩
      by_cases q2 : q = 2
      · subst q2
        go_wp2_with fail
        go_ret
        exact ⟨_, form_kind HM.out (by simp [beq_0]), rfl, below_box HB.out⟩
      by_cases q3 : q = 3
      · subst q3
        go_wp2_with fail
        go_ret
        exact ⟨_, form_kind HM.out (by simp [beq_2]), rfl, below_box HB.out⟩
      by_cases q4 : q = 4
      · subst q4
        go_wp2_with fail
        go_ret
        exact ⟨_, form_kind HM.out (by simp [beq_1]), rfl, below_box HB.out⟩
      go_wp2_with fail
      go_ret
      exact ⟨_, form_kind HM.out (by simp [q1, q2, q3, q4]), rfl, below_box HB.out⟩

set_option maxRecDepth 100000 in
set_option maxHeartbeats 1000000 in
theorem left_any {w0 : World} {C : Nat → Prop} {ts : List Ty} {v : Value} (h : TS w0 C ts v) : ∀ (w : World) (q : Int) (left : Int), Stays C w0 w → nodesS ts ≤ 2097152 → 0 ≤ left → left ≤ 2097152 → Calls Tryd.prog 102 #[.agg #[.int .i64 q, v], .int .i64 left] w (IntRet (LeftEnds left (1 + nodesS ts)) w) := by
  refine TS.ind (motive := fun ts v => ∀ (w : World) (q : Int) (left : Int), Stays C w0 w → nodesS ts ≤ 2097152 → 0 ≤ left → left ≤ 2097152 → Calls Tryd.prog 102 #[.agg #[.int .i64 q, v], .int .i64 left] w (IntRet (LeftEnds left (1 + nodesS ts)) w)) ?_ h
  intro ts p c hl H w q left hst hn h0 hL
  have HH := Lib.hid H
  have HST := Lib.hid hst
  have hlen := nodesS_ge ts
  clear H hst
  go_enter Tryd.func102, Tryd.ntmps102
  go_wp2_with fail
  go_loopw [1, 5] (fun l i wr => ∃ (k : Nat) (L : Int), k ≤ ts.length ∧ i = .int .i64 k ∧ l = .int .i64 L ∧ LeftEnds (left - 1) (nodesS (ts.take k)) L ∧ Below (w.alloc (.cells #[.int .i64 q, .slice p ts.length c] 32)).heap.size (w.alloc (.cells #[.int .i64 q, .slice p ts.length c] 32)) wr) (fun _ i _ => ts.length - (intOf i).toNat)
  case atStart => exact ⟨0, _, Nat.zero_le _, rfl, rfl, leftEnds_start h0, Below.refl _ _⟩
  case round =>
    obtain ⟨k, L, hk, rfl, rfl, hle, hbr⟩ := hrel
    have HB := Lib.hid hbr
    obtain ⟨d0, d1⟩ := box2 hbr
    clear hbr
    by_cases hlk : k < ts.length
    · obtain ⟨b, o, p', c', rfl, hcs, hT, hI⟩ := HH.out k _ (List.getElem?_eq_getElem hlk)
      have hsr := HST.out.trans (Stays.of_below (C := C) (below_box HB.out))
      obtain ⟨c1, c2⟩ := hcs wr hsr
      have n1 := nodesS_take_next ts k hlk
      have n2 := nodesS_take_le ts (k + 1)
      have n3 := ts[k].nodes_eq
      have HM := Lib.hid hle
      have hLr := hle.range (by omega)
      clear hle
      by_cases hneg : L < 0
      · clear hcs hT hI hsr n1 n3
        go_wp2_with fail
        go_ret
        exact ⟨_, HM.out.stop hneg n2, rfl, below_box HB.out⟩
      have HC := Lib.hid (hI wr ts[k].kind L hsr (by omega) (by omega) (by omega))
      have HN1 := Lib.hid n1
      have HN2 := Lib.hid n2
      have HN3 := Lib.hid n3
      clear hcs hT hI hsr n1 n2 n3
      go_wp2_with fail
      refine HC.out.mono ?_
      rintro e w1 ⟨r, hr, rfl, hb1⟩
      have HB1 := Lib.hid (HB.out.trans (hb1.mono HB.out.size))
      clear hb1
      have hr2 := hr.range (by omega)
      have HR := Lib.hid hr
      clear hr
      go_wp2_with fail
      go_roundw
      case rel => exact ⟨k + 1, r, by omega, by go_num, rfl, by rw [HN1.out, HN3.out]; exact HM.out.next HR.out (by omega), HB1.out⟩
      case measure => simp [intOf]; omega
    · obtain rfl : k = ts.length := by omega
      rw [List.take_length] at hle
      have HM := Lib.hid hle
      have hLr := hle.range (by omega)
      clear hle
      go_wp2_with fail
      go_ret
      exact ⟨_, HM.out.full, rfl, below_box HB.out⟩

end Go.Proofs.YtfeijijeohfpgaaDoor
namespace Go.Proofs.YtfeijijeohfpgaaDoor
open Go Go.RowKit

def Ty.valid (t : Ty) : Bool := decide (t.nodes ≤ 30) && decide (t.depth ≤ 8) && t.form
def Ty.base (t : Ty) : Bool := decide ((t.kind = 1 ∨ t.kind = 2) ∧ t.args.length = 0)
def Ty.plain (t : Ty) : Bool := t.valid && !t.has 4

set_option maxRecDepth 100000 in
set_option maxHeartbeats 1000000 in
theorem valid_any {C : Nat → Prop} {t : Ty} {v : Value} {w : World} (h : TT w C t v) (hn : nodesS t.args ≤ 2097152) :
    Calls Tryd.prog 80 #[v] w (BoolRet (fun r => r = t.valid) w) := by
  obtain ⟨s, rfl, hS⟩ := h
  obtain ⟨p, c, rfl⟩ := hS.form
  have hb0 := (Below.refl w.heap.size w).alloc (Nat.le_refl _) (Obj.cells #[.int .i64 t.kind, .slice p t.args.length c] 32)
  have HB0 := Lib.hid hb0
  have HL := Lib.hid (left_any hS _ t.kind 30 (.of_below hb0) hn (by omega) (by omega))
  have HD := Lib.hid (fun w' (hw : Below w.heap.size w w') => depth_any hS w' t.kind (.of_below hw) hn)
  have HF := Lib.hid (fun w' (hw : Below w.heap.size w w') => form_any hS w' t.kind (.of_below hw) hn)
  have hdn := depthS_nodes t.args
  clear hS hb0
  have HV := Lib.hid (show t.valid = (decide (1 + nodesS t.args ≤ 30) && decide (1 + depthS t.args ≤ 8) && (Ty.mk t.kind t.args).form) by rw [Ty.valid, Ty.nodes_eq, depth_at, ← Ty.eta])
  go_enter Tryd.func80, Tryd.ntmps80
  go_wp2_with fail
  refine HL.out.mono ?_
  rintro e w1 ⟨r, hr, rfl, hb1⟩
  obtain ⟨c0, c1⟩ := box2 hb1
  have HB1 := Lib.hid (HB0.out.trans (hb1.mono HB0.out.size))
  have HR := Lib.hid hr
  have hrr := hr.range (by omega)
  by_cases h0 : 0 ≤ r
  · have hn30 : 1 + nodesS t.args ≤ 30 := by unfold LeftEnds at hr; omega
    clear hr hb1
    go_wp2_with fail
    refine (HD.out w1 HB1.out).mono ?_
    rintro e w2 ⟨d, rfl, rfl, hb2⟩
    have c20 := (hb2.cell (World.block_lt_of_cell? w1 _ c0)).trans c0
    have c21 := (hb2.cell (World.block_lt_of_cell? w1 _ c1)).trans c1
    have HB2 := Lib.hid (HB1.out.trans (hb2.mono HB1.out.size))
    clear hb2 c0 c1
    by_cases h8 : 1 + depthS t.args ≤ 8
    · go_wp2_with fail
      refine (HF.out w2 HB2.out).mono ?_
      rintro e w3 ⟨f, hf, rfl, hb3⟩
      have HB3 := Lib.hid (HB2.out.trans (hb3.mono HB2.out.size))
      have HFF := Lib.hid hf
      clear hf hb3
      go_wp2_with fail
      go_ret
      exact ⟨_, by rw [HV.out, ← HFF.out]; simp [hn30, h8], rfl, HB3.out⟩
    · go_wp2_with fail
      go_ret
      exact ⟨_, by rw [HV.out]; simp [h8], rfl, HB2.out⟩
  · have hn30 : ¬ 1 + nodesS t.args ≤ 30 := by unfold LeftEnds at hr; omega
    clear hr hb1
    go_wp2_with fail
    go_ret
    exact ⟨_, by rw [HV.out]; simp [hn30], rfl, HB1.out⟩

end Go.Proofs.YtfeijijeohfpgaaDoor
namespace Go.Proofs.YtfeijijeohfpgaaDoor
open Go Go.RowKit

end Go.Proofs.YtfeijijeohfpgaaDoor
namespace Go.Proofs.YtfeijijeohfpgaaDoor
open Go Go.RowKit

theorem ar_int (w : World) : Calls Tryd.prog 132 #[.agg #[]] w fun e w' => e = .returned (.int .i64 0) ∧ Below w.heap.size w w' := by
  go_enter Tryd.func132, Tryd.ntmps132
  go_wp2
  go_ret
  exact ⟨rfl, (Below.refl _ _).alloc (Nat.le_refl _) _⟩
theorem ar_bool (w : World) : Calls Tryd.prog 133 #[.agg #[]] w fun e w' => e = .returned (.int .i64 0) ∧ Below w.heap.size w w' := by
  go_enter Tryd.func133, Tryd.ntmps133
  go_wp2
  go_ret
  exact ⟨rfl, (Below.refl _ _).alloc (Nat.le_refl _) _⟩
theorem ar_fun (w : World) : Calls Tryd.prog 134 #[.agg #[]] w fun e w' => e = .returned (.int .i64 2) ∧ Below w.heap.size w w' := by
  go_enter Tryd.func134, Tryd.ntmps134
  go_wp2
  go_ret
  exact ⟨rfl, (Below.refl _ _).alloc (Nat.le_refl _) _⟩
theorem ar_code (w : World) : Calls Tryd.prog 135 #[.agg #[]] w fun e w' => e = .returned (.int .i64 1) ∧ Below w.heap.size w w' := by
  go_enter Tryd.func135, Tryd.ntmps135
  go_wp2
  go_ret
  exact ⟨rfl, (Below.refl _ _).alloc (Nat.le_refl _) _⟩

theorem meth_int (w : World) : (method 261 122 (.agg #[]) "loop.example/g00589/impl.arity").run Tryd.prog w = .ok (132, .agg #[]) w := by kernel_rfl
theorem meth_bool (w : World) : (method 261 123 (.agg #[]) "loop.example/g00589/impl.arity").run Tryd.prog w = .ok (133, .agg #[]) w := by kernel_rfl
theorem meth_fun (w : World) : (method 261 124 (.agg #[]) "loop.example/g00589/impl.arity").run Tryd.prog w = .ok (134, .agg #[]) w := by kernel_rfl
theorem meth_code (w : World) : (method 261 125 (.agg #[]) "loop.example/g00589/impl.arity").run Tryd.prog w = .ok (135, .agg #[]) w := by kernel_rfl
def kindV (k : Int) (n : Nat) : Value :=
  if k = 1 ∧ n = 0 then .iface 122 (.agg #[])
  else if k = 2 ∧ n = 0 then .iface 123 (.agg #[])
  else if k = 3 ∧ n = 2 then .iface 124 (.agg #[])
  else if k = 4 ∧ n = 1 then .iface 125 (.agg #[])
  else .nilIface

theorem keep1 {w W w1 : World} {p1 : Addr} {v1 : Value} (hb1 : Below W.heap.size W w1) (h : W.cell? p1 = some v1 ∧ Below w.heap.size w W) : w1.cell? p1 = some v1 ∧ Below w.heap.size w w1 :=
  ⟨(hb1.cell (World.block_lt_of_cell? W _ h.1)).trans h.1, h.2.trans (hb1.mono h.2.size)⟩

set_option maxRecDepth 100000 in
set_option maxHeartbeats 1000000 in
theorem kindOf_any (k : Int) (p : Option Addr) (n c : Nat) (w : World) (hn : n ≤ 9223372036854775807) :
    Calls Tryd.prog 89 #[.agg #[.int .i64 k, .slice p n c]] w fun e w' => e = .returned (kindV k n) ∧ Below w.heap.size w w' := by
  have HV := Lib.hid (fun v (h : kindV k n = v) (w' : World) (hb : Below w.heap.size w w') => (⟨by rw [h], hb⟩ : Ending.returned v = .returned (kindV k n) ∧ Below w.heap.size w w'))
  go_enter Tryd.func89, Tryd.ntmps89
  by_cases q1 : k = 1
  · subst q1
    have hm := meth_int
    have hB : Below w.heap.size w (w.alloc (Obj.cells #[.int .i64 1, .slice p n c] 32)) := (Below.refl w.heap.size w).alloc (Nat.le_refl _) _
    go_wp2_with fail
    go_region_held3 (fun w' => w'.cell? ⟨w.heap.size, 1, none⟩ = some (.slice p n c) ∧ Below w.heap.size w w')
      (first
        | (go_keep; done)
        | exact ⟨by simp [*], hB.drew⟩
        | exact keep1 hb1 (by assumption))
      (first | (go_at_call 132; refine (ar_int _).mono ?_; rintro e w1 ⟨rfl, hb1⟩))
    all_goals
      rename_i hH
      have HB := Lib.hid hH.2
      clear hH hb1 hB hm
      by_cases hz : n = 0
      · subst hz
        go_wp2_with fail
        go_ret
        exact HV.out _ (by simp [kindV]) _ HB.out
      · go_wp2_with fail
        go_ret
        exact HV.out _ (by simp [kindV, hz]) _ HB.out
  by_cases q2 : k = 2
  · subst q2
    have hm := meth_bool
    have hB : Below w.heap.size w (w.alloc (Obj.cells #[.int .i64 2, .slice p n c] 32)) := (Below.refl w.heap.size w).alloc (Nat.le_refl _) _
    go_wp2_with fail
    go_region_held3 (fun w' => w'.cell? ⟨w.heap.size, 1, none⟩ = some (.slice p n c) ∧ Below w.heap.size w w')
      (first
        | (go_keep; done)
        | exact ⟨by simp [*], hB.drew⟩
        | exact keep1 hb1 (by assumption))
      (first | (go_at_call 133; refine (ar_bool _).mono ?_; rintro e w1 ⟨rfl, hb1⟩))
    all_goals
      rename_i hH
      have HB := Lib.hid hH.2
      clear hH hb1 hB hm
      by_cases hz : n = 0
      · subst hz
        go_wp2_with fail
        go_ret
        exact HV.out _ (by simp [kindV]) _ HB.out
      · go_wp2_with fail
        go_ret
        exact HV.out _ (by simp [kindV, hz]) _ HB.out
  by_cases q3 : k = 3
  · subst q3
    have hm := meth_fun
    have hB : Below w.heap.size w (w.alloc (Obj.cells #[.int .i64 3, .slice p n c] 32)) := (Below.refl w.heap.size w).alloc (Nat.le_refl _) _
    go_wp2_with fail
    go_region_held3 (fun w' => w'.cell? ⟨w.heap.size, 1, none⟩ = some (.slice p n c) ∧ Below w.heap.size w w')
      (first
        | (go_keep; done)
        | exact ⟨by simp [*], hB.drew⟩
        | exact keep1 hb1 (by assumption))
      (first | (go_at_call 134; refine (ar_fun _).mono ?_; rintro e w1 ⟨rfl, hb1⟩))
    all_goals
      rename_i hH
      have HB := Lib.hid hH.2
      clear hH hb1 hB hm
      by_cases hz : n = 2
      · subst hz
        go_wp2_with fail
        go_ret
        exact HV.out _ (by simp [kindV]) _ HB.out
      · go_wp2_with fail
        go_ret
        exact HV.out _ (by simp [kindV, hz]) _ HB.out
  by_cases q4 : k = 4
  · subst q4
    have hm := meth_code
    have hB : Below w.heap.size w (w.alloc (Obj.cells #[.int .i64 4, .slice p n c] 32)) := (Below.refl w.heap.size w).alloc (Nat.le_refl _) _
    go_wp2_with fail
    go_region_held3 (fun w' => w'.cell? ⟨w.heap.size, 1, none⟩ = some (.slice p n c) ∧ Below w.heap.size w w')
      (first
        | (go_keep; done)
        | exact ⟨by simp [*], hB.drew⟩
        | exact keep1 hb1 (by assumption))
      (first | (go_at_call 135; refine (ar_code _).mono ?_; rintro e w1 ⟨rfl, hb1⟩))
    all_goals
      rename_i hH
      have HB := Lib.hid hH.2
      clear hH hb1 hB hm
      by_cases hz : n = 1
      · subst hz
        go_wp2_with fail
        go_ret
        exact HV.out _ (by simp [kindV]) _ HB.out
      · go_wp2_with fail
        go_ret
        exact HV.out _ (by simp [kindV, hz]) _ HB.out
  have hB := Lib.hid ((Below.refl w.heap.size w).alloc (Nat.le_refl _) (Obj.cells #[.int .i64 k, .slice p n c] 32))
  have t1 : (k == 1) = false := by simp [q1]
  have t2 : (k == 2) = false := by simp [q2]
  have t3 : (k == 3) = false := by simp [q3]
  have t4 : (k == 4) = false := by simp [q4]
  have hv := Lib.hid (show kindV k n = .nilIface by simp [kindV, q1, q2, q3, q4])
  clear q1 q2 q3 q4
  go_wp2_with fail
  go_region
  all_goals
    go_wp2_with fail
    go_ret
    exact HV.out _ hv.out _ hB.out.drew
end Go.Proofs.YtfeijijeohfpgaaDoor
namespace Go.Proofs.YtfeijijeohfpgaaDoor
open Go Go.RowKit

theorem kindV_cases (k : Int) (n : Nat) : ((k = 1 ∧ n = 0) ∧ kindV k n = .iface 122 (.agg #[])) ∨ ((k = 2 ∧ n = 0) ∧ kindV k n = .iface 123 (.agg #[])) ∨
    ((k = 3 ∧ n = 2) ∧ kindV k n = .iface 124 (.agg #[])) ∨ ((k = 4 ∧ n = 1) ∧ kindV k n = .iface 125 (.agg #[])) ∨
    ((¬ (k = 1 ∧ n = 0) ∧ ¬ (k = 2 ∧ n = 0) ∧ ¬ (k = 3 ∧ n = 2) ∧ ¬ (k = 4 ∧ n = 1)) ∧ kindV k n = .nilIface) := by
  unfold kindV
  by_cases h1 : k = 1 ∧ n = 0
  · simp [h1]
  by_cases h2 : k = 2 ∧ n = 0
  · simp [h2]
  by_cases h3 : k = 3 ∧ n = 2
  · simp [h3]
  by_cases h4 : k = 4 ∧ n = 1
  · simp [h4]
  simp [h1, h2, h3, h4]

def Ty.code (t : Ty) : Bool := decide (t.kind = 4 ∧ t.args.length = 1)

end Go.Proofs.YtfeijijeohfpgaaDoor
namespace Go.Proofs.YtfeijijeohfpgaaDoor
open Go Go.RowKit

theorem snoc_cases {α : Type} (l : List α) : l = [] ∨ ∃ l0 e, l = l0 ++ [e] := by
  rcases List.eq_nil_or_concat l with h | ⟨l0, e, h⟩
  · exact Or.inl h
  · exact Or.inr ⟨l0, e, by rw [h, List.concat_eq_append]⟩
theorem wrap_in (n : Nat) (h : n ≤ 9223372036854775807) : IntKind.i64.wrap (n : Int) = n := IntWalk.i64_in _ (by omega)
theorem keepApp {w0 w' : World} {base : Nat} {e : TypeId} {size n : Nat} {v : Value} {xs cs : List Value} {g cap : Nat} (hA : Appd w0 w' base e size v n xs cs g cap) {p : Addr} {u : Value} (h : w0.cell? p = some u) (hne : v.ownBlock ≠ some p.block) : w'.cell? p = some u :=
  (World.cell?_of_block (hA.kept p.block (World.block_lt_of_cell? w0 _ h) hne).1).trans h

end Go.Proofs.YtfeijijeohfpgaaDoor
namespace Go.Proofs.YtfeijijeohfpgaaDoor
open Go Go.RowKit

mutual
def Tm.depth : Tm → Nat
  | .mk _ _ _ _ _ _ ts => 1 + depthM ts
def depthM : List Tm → Nat
  | [] => 0
  | t :: ts => max t.depth (depthM ts)
end
mutual
theorem depthM_nodes : ∀ ts : List Tm, depthM ts ≤ nodesM ts
  | [] => Nat.le_refl _
  | t :: ts => by
    have h1 := Tm.depth_nodes t
    have h2 := depthM_nodes ts
    simp only [depthM, nodesM]
    omega
theorem Tm.depth_nodes : ∀ t : Tm, t.depth ≤ t.nodes
  | .mk k a b n t r ts => by
    have := depthM_nodes ts
    simp only [Tm.depth, Tm.nodes]
    omega
end
theorem box_rest {w w' : World} {A : Array Value} {T : TypeId} (h : Below (w.alloc (.cells A T)).heap.size (w.alloc (.cells A T)) w') : Below w.heap.size w w' :=
  (al_below w _).trans (h.mono (by simp))


end Go.Proofs.YtfeijijeohfpgaaDoor
