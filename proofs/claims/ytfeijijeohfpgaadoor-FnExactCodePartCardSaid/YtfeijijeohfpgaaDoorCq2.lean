/-
  Several texts of the proof in one (each says below what it holds): TmSz OpenM StrEq TmEq TmCopy TmCopy2 TyMark Num Put Strs Mark MarkD TmMark TmMark2 Cf.
-/
import Derived.Test.YtfeijijeohfpgaaDoorCq1
import Derived.Test.YtfeijijeohfpgaaDoorProg
import Derived.Laws.Strings
import Derived.Lib.ItoaNum
import Derived.Lib.AtoiAll
import Derived.OwnWalk
import Derived.Below
import Derived.WalkSmall
import Derived.Deep.RegionHeld3
import Derived.Lib.SmallJoins
set_option linter.unusedVariables false
set_option linter.unusedSimpArgs false
namespace Go.Proofs.YtfeijijeohfpgaaDoor
open Go Go.RowKit

mutual
def Tm.fit : Tm → Prop
  | .mk _ a b _ _ _ ts => a.size ≤ 9223372036854775807 ∧ b.size ≤ 9223372036854775807 ∧ fitS ts
def fitS : List Tm → Prop
  | [] => True
  | t :: ts => t.fit ∧ fitS ts
end
theorem Tm.fit_eq (t : Tm) : t.fit ↔ t.name.size ≤ 9223372036854775807 ∧ t.other.size ≤ 9223372036854775807 ∧ fitS t.args := by cases t; simp [Tm.fit, Tm.name, Tm.other, Tm.args]
theorem fitS_at : ∀ (ts : List Tm) (j : Nat) (hj : j < ts.length), fitS ts → ts[j].fit
  | t :: ts, 0, _, h => h.1
  | t :: ts, j + 1, hj, h => fitS_at ts j (by simpa using hj) h.2
theorem fitS_of : ∀ (ts : List Tm), (∀ (j : Nat) (hj : j < ts.length), ts[j].fit) → fitS ts
  | [], _ => trivial
  | t :: ts, h => ⟨h 0 (by simp), fitS_of ts (fun j hj => h (j + 1) (by simpa using hj))⟩
structure Bx9 (w : World) (b : Nat) (t : Tm) (tp : Option Addr) (tc : Nat) (rp : Option Addr) (rc : Nat) (p : Option Addr) (c : Nat) : Prop where
  kind : w.cell? ⟨b, 0, none⟩ = some (.int .i64 t.kind)
  name : w.cell? ⟨b, 1, none⟩ = some (.string t.name)
  other : w.cell? ⟨b, 2, none⟩ = some (.string t.other)
  n : w.cell? ⟨b, 3, none⟩ = some (.int .i64 t.n)
  tk : w.cell? ⟨b, 4, none⟩ = some (.int .i64 t.ty.kind)
  ta : w.cell? ⟨b, 5, none⟩ = some (.slice tp t.ty.args.length tc)
  rk : w.cell? ⟨b, 6, none⟩ = some (.int .i64 t.res.kind)
  ra : w.cell? ⟨b, 7, none⟩ = some (.slice rp t.res.args.length rc)
  args : w.cell? ⟨b, 8, none⟩ = some (.slice p t.args.length c)
abbrev tmC (t : Tm) (tp : Option Addr) (tc : Nat) (rp : Option Addr) (rc : Nat) (p : Option Addr) (c : Nat) : Array Value :=
  #[.int .i64 t.kind, .string t.name, .string t.other, .int .i64 t.n, .int .i64 t.ty.kind, .slice tp t.ty.args.length tc, .int .i64 t.res.kind, .slice rp t.res.args.length rc, .slice p t.args.length c]
theorem Bx9.of {w : World} {b : Nat} {t : Tm} {tp rp p : Option Addr} {tc rc c : Nat} {T : TypeId} (h : w.heap[b]? = some (.cells (tmC t tp tc rp rc p c) T (0, 0))) : Bx9 w b t tp tc rp rc p c := by
  have k : ∀ i, w.cell? ⟨b, i, none⟩ = (tmC t tp tc rp rc p c)[i]? := fun i => by simp [World.cell?, h]
  exact ⟨k 0, k 1, k 2, k 3, k 4, k 5, k 6, k 7, k 8⟩
theorem Bx9.lt {w : World} {b : Nat} {t : Tm} {tp rp p : Option Addr} {tc rc c : Nat} (h : Bx9 w b t tp tc rp rc p c) : b < w.heap.size := World.block_lt_of_cell? w _ h.kind
theorem Bx9.at {w w' : World} {b : Nat} {t : Tm} {tp rp p : Option Addr} {tc rc c : Nat} (h : Bx9 w b t tp tc rp rc p c) (hs : w'.heap[b]? = w.heap[b]?) : Bx9 w' b t tp tc rp rc p c := by
  have k : ∀ i, w'.cell? ⟨b, i, none⟩ = w.cell? ⟨b, i, none⟩ := fun i => World.cell?_of_block (a := ⟨b, i, none⟩) hs
  exact ⟨(k 0).trans h.kind, (k 1).trans h.name, (k 2).trans h.other, (k 3).trans h.n, (k 4).trans h.tk, (k 5).trans h.ta, (k 6).trans h.rk, (k 7).trans h.ra, (k 8).trans h.args⟩
theorem Bx9.keep {w w' : World} {b : Nat} {t : Tm} {tp rp p : Option Addr} {tc rc c : Nat} (h : Bx9 w b t tp tc rp rc p c) (hb : Below w.heap.size w w') : Bx9 w' b t tp tc rp rc p c := h.at (hb.block b h.lt)
theorem Bx9.new (w : World) (t : Tm) (tp : Option Addr) (tc : Nat) (rp : Option Addr) (rc : Nat) (p : Option Addr) (c : Nat) (T : TypeId) : Bx9 (w.alloc (.cells (tmC t tp tc rp rc p c) T)) w.heap.size t tp tc rp rc p c :=
  Bx9.of (T := T) (by show (w.heap.push _)[w.heap.size]? = _; simp)
set_option maxRecDepth 100000 in
set_option maxHeartbeats 2000000 in
theorem szM_of {C : Nat → Prop} {t : Tm} {tp rp p : Option Addr} {tc rc c : Nat} {w : World} (left : Int) (h0 : 0 ≤ left) (hl : left ≤ 1048576) (hT : TM' w C t tp tc rp rc p c) (hf : t.fit)
    (h : ∀ (w' : World) (l : Int), Below w.heap.size w w' → 0 ≤ l → l ≤ left → Calls Tryd.prog 30 #[.slice p t.args.length c, .int .i64 l] w' (IntRet (SzEnds l (wtS t.args)) w')) :
    Calls Tryd.prog 10 #[tmV t tp tc rp rc p c, .int .i64 left] w (IntRet (SzEnds left t.wt) w) := by
  have HH := Lib.hid h
  have HT := Lib.hid hT
  have HB0 := Lib.hid (al_below w (.cells (tmC t tp tc rp rc p c) 27))
  have HX0 := Lib.hid (Bx9.new w t tp tc rp rc p c 27)
  have HW := Lib.hid t.wt_eq
  obtain ⟨f1, f2, _⟩ := (Tm.fit_eq t).1 hf
  clear h hT hf
  go_enter Tryd.func10, Tryd.ntmps10
  by_cases c1 : left - (t.name.size : Int) < 0
  · go_wp2_with fail
    go_ret
    exact ⟨_, Or.inr ⟨rfl, by have := HW.out; omega⟩, rfl, HB0.out⟩
  by_cases c2 : left - (t.name.size : Int) - (t.other.size : Int) < 0
  · go_wp2_with fail
    go_ret
    exact ⟨_, Or.inr ⟨rfl, by have := HW.out; omega⟩, rfl, HB0.out⟩
  have HC3 := Lib.hid (szT_any (C := C) (t := t.ty) (v := .agg #[.int .i64 t.ty.kind, .slice tp t.ty.args.length tc]) ⟨_, rfl, HT.out.ty.keep HB0.out⟩ (left - (t.name.size : Int) - (t.other.size : Int)) (by omega) (by omega))
  go_wp2_with fail
  refine HC3.out.mono ?_
  rintro e w3 ⟨r3, hr3, rfl, hb3⟩
  have rg3 := hr3.range (by omega)
  have HR3 := Lib.hid hr3
  have HB3 := Lib.hid (HB0.out.trans (hb3.mono HB0.out.size))
  have hx3 := HX0.out.keep hb3
  obtain ⟨_, _, _, _, g4, g5, g6, g7, g8⟩ := hx3
  have HX3 := Lib.hid (HX0.out.keep hb3)
  clear hr3 hb3 HC3
  by_cases c3 : r3 < 0
  · go_wp2_with fail
    go_ret
    exact ⟨_, Or.inr ⟨rfl, by have := HW.out; have := HR3.out; unfold SzEnds at this; omega⟩, rfl, HB3.out⟩
  have HC4 := Lib.hid (szT_any (C := C) (t := t.res) (v := .agg #[.int .i64 t.res.kind, .slice rp t.res.args.length rc]) ⟨_, rfl, HT.out.res.keep HB3.out⟩ r3 (by omega) (by omega))
  go_wp2_with fail
  refine HC4.out.mono ?_
  rintro e w4 ⟨r4, hr4, rfl, hb4⟩
  have rg4 := hr4.range (by omega)
  have HR4 := Lib.hid hr4
  have HB4 := Lib.hid (HB3.out.trans (hb4.mono HB3.out.size))
  have hx4 := HX3.out.keep hb4
  clear g4 g5 g6 g7 g8
  obtain ⟨_, _, _, _, _, _, _, _, g8⟩ := hx4
  clear hr4 hb4 HC4
  by_cases c4 : r4 < 0
  · go_wp2_with fail
    go_ret
    exact ⟨_, Or.inr ⟨rfl, by have := HW.out; have := HR3.out; have := HR4.out; unfold SzEnds at *; omega⟩, rfl, HB4.out⟩
  have HC5 := Lib.hid (HH.out w4 r4 HB4.out (by omega) (by omega))
  go_wp2_with fail
  refine HC5.out.mono ?_
  rintro e w5 ⟨r5, hr5, rfl, hb5⟩
  have rg5 := hr5.range (by omega)
  have HR5 := Lib.hid hr5
  have HB5 := Lib.hid (HB4.out.trans (hb5.mono HB4.out.size))
  clear hr5 hb5 HC5
  by_cases c5 : r5 < 0
  · go_wp2_with fail
    go_ret
    exact ⟨_, by have := HW.out; have := HR3.out; have := HR4.out; have := HR5.out; unfold SzEnds at *; omega, rfl, HB5.out⟩
  · go_wp2_with fail
    go_ret
    exact ⟨_, by have := HW.out; have := HR3.out; have := HR4.out; have := HR5.out; unfold SzEnds at *; omega, rfl, HB5.out⟩
def LeftM (left : Int) (ts : List Tm) (k : Nat) (L : Int) : Prop := L + ts.length + (wtS (ts.take k) - k : Nat) = left
theorem wtS_take_ge (ts : List Tm) (k : Nat) (h : k ≤ ts.length) : k ≤ wtS (ts.take k) := by
  have := wtS_ge (ts.take k)
  rw [List.length_take] at this
  omega
theorem leftM_next {left : Int} {ts : List Tm} {k : Nat} {L r : Int} (h : LeftM left ts k L) (hk : k < ts.length) (hr : SzEnds L ts[k].wt r) (h0 : 0 ≤ r) : LeftM left ts (k + 1) r := by
  have h1 := wtS_take ts k hk
  have h2 := wtS_take_ge ts k (Nat.le_of_lt hk)
  unfold LeftM SzEnds at *
  omega
theorem leftM_over {left : Int} {ts : List Tm} {k : Nat} {L r : Int} (h : LeftM left ts k L) (hk : k < ts.length) (hr : SzEnds L ts[k].wt r) (h0 : r < 0) : SzEnds left (wtS ts) (-1) := by
  have h1 := wtS_take ts k hk
  have h2 := wtS_take_ge ts k (Nat.le_of_lt hk)
  have h3 := wtS_append (ts.take (k + 1)) (ts.drop (k + 1))
  rw [List.take_append_drop] at h3
  have h4 := wtS_ge (ts.drop (k + 1))
  rw [List.length_drop] at h4
  unfold LeftM SzEnds at *
  omega
theorem leftM_end {left : Int} {ts : List Tm} {L : Int} (h : LeftM left ts ts.length L) (h0 : 0 ≤ L) : SzEnds left (wtS ts) L := by
  have h2 := wtS_ge ts
  unfold LeftM at h
  rw [List.take_length] at h
  unfold SzEnds
  omega

set_option maxRecDepth 100000 in
set_option maxHeartbeats 1000000 in
theorem szMS_any {w0 : World} {C : Nat → Prop} {ts : List Tm} {v : Value} (h : DM w0 C (tmD ts) v) : ∀ (w : World) (left : Int), Stays C w0 w → 0 ≤ left → left ≤ 1048576 → fitS ts →
    Calls Tryd.prog 30 #[v, .int .i64 left] w (IntRet (SzEnds left (wtS ts)) w) := by
  refine tm_ind (motive := fun ts v => ∀ (w : World) (left : Int), Stays C w0 w → 0 ≤ left → left ≤ 1048576 → fitS ts → Calls Tryd.prog 30 #[v, .int .i64 left] w (IntRet (SzEnds left (wtS ts)) w)) ?_ _ (Nat.le_refl _) h
  intro ts q d hlen H w left hst h0 hl hfit
  have HH := Lib.hid H
  have HST := Lib.hid hst
  have HF := Lib.hid hfit
  clear H hst hfit
  go_enter Tryd.func30, Tryd.ntmps30
  by_cases hbig : left - (ts.length : Int) < 0
  · go_wp2_with fail
    go_ret
    exact ⟨_, Or.inr ⟨rfl, by have := wtS_ge ts; omega⟩, rfl, Below.refl _ _⟩
  · go_wp2_with fail
    go_loopw [1, 5] (fun l i wr => ∃ (k : Nat) (L : Int), k ≤ ts.length ∧ 0 ≤ L ∧ L ≤ left ∧ i = .int .i64 k ∧ l = .int .i64 L ∧ LeftM left ts k L ∧ Below w.heap.size w wr) (fun _ i _ => ts.length - (intOf i).toNat)
    case atStart => exact ⟨0, _, Nat.zero_le _, by omega, by omega, rfl, rfl, by unfold LeftM; simp [wtS], Below.refl _ _⟩
    case round =>
      obtain ⟨k, L, hk, hL0, hL1, rfl, rfl, hat, hbr⟩ := hrel
      have HA := Lib.hid hat
      have HB := Lib.hid hbr
      have HSR := Lib.hid (HST.out.trans (Stays.of_below (C := C) hbr))
      clear hat hbr
      by_cases hlk : k < ts.length
      · obtain ⟨b, o, tp, tc, rp, rc, p, c, rfl, hC, hb, h9, hT, hI⟩ := HH.out k hlk
        obtain ⟨g0, g1, g2, g3, g4, g5, g6, g7, g8⟩ := h9 wr HSR.out
        have hfk := fitS_at ts k hlk HF.out
        have HC := Lib.hid (szM_of (C := C) L hL0 (by omega) (hT.stays HSR.out) hfk (fun w' l hw' hl0 hl1 => hI w' l (HSR.out.trans (.of_below hw')) hl0 (by omega) ((Tm.fit_eq _).1 hfk).2.2))
        have i0 : (0 : Int) ≤ (k : Int) := Int.natCast_nonneg _
        have i1 : (k : Int) < (ts.length : Int) := by omega
        clear hC hb h9 hT hI hfk
        go_wp2_with fail
        refine HC.out.mono ?_
        rintro e w1 ⟨r, hr, rfl, hb1⟩
        have hrg := hr.range hL0
        have HR := Lib.hid hr
        have HB1 := Lib.hid (HB.out.trans (hb1.mono HB.out.size))
        clear hr hb1
        by_cases hneg : r < 0
        · go_wp2_with fail
          go_ret
          exact ⟨_, leftM_over HA.out hlk HR.out hneg, rfl, HB1.out⟩
        · go_wp2_with fail
          go_roundw
          case rel => exact ⟨k + 1, r, by omega, by omega, by omega, by go_num, rfl, leftM_next HA.out hlk HR.out (by omega), HB1.out⟩
          case measure => simp [intOf]; omega
      · obtain rfl : k = ts.length := by omega
        go_wp2_with fail
        go_ret
        exact ⟨_, leftM_end HA.out hL0, rfl, HB.out⟩
theorem szM_any {C : Nat → Prop} {t : Tm} {v : Value} {w : World} (h : TM w C t v) (hf : t.fit) (left : Int) (h0 : 0 ≤ left) (hl : left ≤ 1048576) :
    Calls Tryd.prog 10 #[v, .int .i64 left] w (IntRet (SzEnds left t.wt) w) := by
  obtain ⟨tp, tc, rp, rc, p, c, rfl, hT⟩ := h
  exact szM_of left h0 hl hT hf (fun w' l hb hl0 hl1 => szMS_any hT.args w' l (.of_below hb) hl0 (by omega) ((Tm.fit_eq t).1 hf).2.2)
end Go.Proofs.YtfeijijeohfpgaaDoor
namespace Go.Proofs.YtfeijijeohfpgaaDoor
open Go Go.ChangeShapes Go.WideShapes Go.RowKit

theorem cells_tm : Tryd.prog.cellsOf 27 = 9 := by kernel_rfl
theorem cells_slm : Tryd.prog.cellsOf 25 = 1 := by kernel_rfl

section
variable {H : Type} {enc : TypeId × Value → H} {w : World} {spare : Nat → Bool} {held : Bool}

theorem cell_of_cells9 {a : Addr} {cs : List Value} {base i : Nat} (h : w.cells? base (a.add (i * 9)) 9 = some cs) : cs.length = 9 ∧ ∀ j, j < 9 → w.cell? (a.add (i * 9 + j)) = cs[j]? := by
  unfold World.cells? at h
  split at h
  · have e : (List.range 9) = [0, 1, 2, 3, 4, 5, 6, 7, 8] := rfl
    rw [e] at h
    simp only [List.mapM_cons, List.mapM_nil, Option.bind_eq_bind, Option.bind_eq_some_iff, Option.pure_def, Option.some.injEq] at h
    obtain ⟨v0, h0, _, ⟨v1, h1, _, ⟨v2, h2, _, ⟨v3, h3, _, ⟨v4, h4, _, ⟨v5, h5, _, ⟨v6, h6, _, ⟨v7, h7, _, ⟨v8, h8, _, rfl, rfl⟩, rfl⟩, rfl⟩, rfl⟩, rfl⟩, rfl⟩, rfl⟩, rfl⟩, rfl⟩ := h
    rw [Go.Deep.add_add] at h0 h1 h2 h3 h4 h5 h6 h7 h8
    refine ⟨rfl, fun j hj => ?_⟩
    match j, hj with
    | 0, _ => exact h0
    | 1, _ => exact h1
    | 2, _ => exact h2
    | 3, _ => exact h3
    | 4, _ => exact h4
    | 5, _ => exact h5
    | 6, _ => exact h6
    | 7, _ => exact h7
    | 8, _ => exact h8
    | n + 9, hj => omega
  · cases h

set_option maxRecDepth 100000 in
set_option maxHeartbeats 2000000 in
theorem open_tm : ∀ (fuel : Nat), (∀ (cs : List Value) (x : DataW H × List MemPlace), DataW.trod enc Tryd.prog w 0 spare held fuel 27 cs = some x → ∃ (t : Tm) (tp : Option Addr) (tc : Nat) (rp : Option Addr) (rc : Nat) (p : Option Addr) (c : Nat),
      cs = (tmC t tp tc rp rc p c).toList ∧ TM' w (fun _ => True) t tp tc rp rc p c ∧ t.fit) ∧
    (∀ (cs : List Value) (x : DataW H × List MemPlace), DataW.trod enc Tryd.prog w 0 spare held fuel 25 cs = some x → ∃ (s : Value) (ts : List Tm), cs = [s] ∧ DM w (fun _ => True) (tmD ts) s ∧ fitS ts) := by
  intro fuel
  induction fuel using Nat.strongRecOn with
  | _ fuel IH =>
    constructor
    · intro cs x h
      obtain ⟨xs, n, hn, _, hl, hlen, hf⟩ := DataW.trod_struct Tryd.underlying27 h
      rw [cells_tm] at hl
      have g0 : DataW.trod enc Tryd.prog w 0 spare held n 3 ((cs.drop 0).take (Tryd.prog.cellsOf 3)) = xs[0]? := hf 0 _ rfl
      have g1 : DataW.trod enc Tryd.prog w 0 spare held n 9 ((cs.drop 1).take (Tryd.prog.cellsOf 9)) = xs[1]? := hf 1 _ rfl
      have g2 : DataW.trod enc Tryd.prog w 0 spare held n 9 ((cs.drop 2).take (Tryd.prog.cellsOf 9)) = xs[2]? := hf 2 _ rfl
      have g3 : DataW.trod enc Tryd.prog w 0 spare held n 3 ((cs.drop 3).take (Tryd.prog.cellsOf 3)) = xs[3]? := hf 3 _ rfl
      have g4 : DataW.trod enc Tryd.prog w 0 spare held n 24 ((cs.drop 4).take (Tryd.prog.cellsOf 24)) = xs[4]? := hf 4 _ rfl
      have g5 : DataW.trod enc Tryd.prog w 0 spare held n 24 ((cs.drop 6).take (Tryd.prog.cellsOf 24)) = xs[5]? := hf 5 _ rfl
      have g6 : DataW.trod enc Tryd.prog w 0 spare held n 25 ((cs.drop 8).take (Tryd.prog.cellsOf 25)) = xs[6]? := hf 6 _ rfl
      rw [cells_int] at g0 g3
      rw [cells_str] at g1 g2
      rw [cells_ty] at g4 g5
      rw [cells_slm] at g6
      match cs, hl, xs, hlen with
      | [c0, c1, c2, c3, c4, c5, c6, c7, c8], _, [y0, y1, y2, y3, y4, y5, y6], _ =>
        obtain ⟨k, hk, _, _⟩ := DataW.trod_int Tryd.underlying3 g0
        obtain ⟨sa, ha, _, za⟩ := DataW.trod_string Tryd.underlying9 g1
        obtain ⟨sb, hb, _, zb⟩ := DataW.trod_string Tryd.underlying9 g2
        obtain ⟨nn, hnn, _, _⟩ := DataW.trod_int Tryd.underlying3 g3
        obtain ⟨kt, st, tts, hst, htt⟩ := (open_ty n).1 _ _ g4
        obtain ⟨kr, sr, rts, hsr, hrt⟩ := (open_ty n).1 _ _ g5
        obtain ⟨s, ts, hs, ht, hfit⟩ := (IH n (by omega)).2 _ _ g6
        simp only [List.drop_zero, List.drop_succ_cons, List.take_succ_cons, List.take_zero, List.cons.injEq, and_true] at hk ha hb hnn hst hsr hs
        obtain ⟨rfl, rfl⟩ := hst
        obtain ⟨rfl, rfl⟩ := hsr
        subst hk ha hb hnn hs
        obtain ⟨tp, tc, rfl⟩ := htt.form
        obtain ⟨rp, rc, rfl⟩ := hrt.form
        obtain ⟨p, c, rfl⟩ := ht.form
        exact ⟨.mk k sa sb nn (.mk kt tts) (.mk kr rts) ts, tp, tc, rp, rc, p, c, rfl, ⟨htt, hrt, ht⟩, (Tm.fit_eq _).2 ⟨za, zb, hfit⟩⟩
    · intro cs x h
      rcases DataW.trod_slice Tryd.underlying25 h with ⟨rfl, _⟩ | ⟨a, len, cap, elems, rest, n, hn, rfl, _, _, hl, hm, hlen, hel, _, _⟩
      · exact ⟨_, [], rfl, .nil _ _ _ _, trivial⟩
      · by_cases h0 : len = 0
        · subst h0
          exact ⟨_, [], rfl, .nil _ _ _ _, trivial⟩
        rw [cells_tm] at hel
        have each : ∀ i, i < len → ∃ z : Tm, (∃ (tp : Option Addr) (tc : Nat) (rp : Option Addr) (rc : Nat) (p : Option Addr) (c : Nat),
            (∀ j, j < 9 → w.cell? (a.add (i * 9 + j)) = (tmC z tp tc rp rc p c).toList[j]?) ∧ TM' w (fun _ => True) z tp tc rp rc p c) ∧ z.fit := by
          intro i hi
          have hb := hel i hi
          rw [List.getElem?_eq_getElem (by omega), Option.bind_eq_some_iff] at hb
          obtain ⟨cs', hcs, ht⟩ := hb
          obtain ⟨t, tp, tc, rp, rc, p, c, rfl, hT, hft⟩ := (IH n (by omega)).1 _ _ ht
          exact ⟨t, ⟨tp, tc, rp, rc, p, c, (cell_of_cells9 hcs).2, hT⟩, hft⟩
        haveI : Inhabited Tm := ⟨.mk 0 .empty .empty 0 (.mk 0 []) (.mk 0 []) []⟩
        obtain ⟨f, hf⟩ := Go.Deep.choose_lt (α := Tm) each
        have hspot : a.spot = none := by
          obtain ⟨⟨_, _, _, _, _, _, h9, _⟩, _⟩ := hf 0 (by omega)
          have := h9 0 (by omega)
          simp only [Nat.zero_mul, Nat.zero_add] at this
          simpa [Addr.add] using World.cell?_spot this
        obtain ⟨b, o, sp⟩ := a
        simp only at hspot
        subst hspot
        simp only [Go.WideShapes.add_plain] at hf
        have hb : b < w.heap.size := by
          obtain ⟨⟨_, _, _, _, _, _, h9, _⟩, _⟩ := hf 0 (by omega)
          exact World.block_lt_of_cell? w _ (h9 0 (by omega))
        let ts := (List.range len).map fun i => f i
        have hts : ts.length = len := by simp [ts]
        have at_ : ∀ j (hj : j < ts.length), ts[j] = f j := by
          intro j hj
          simp [ts]
        -- every cell of the row is there and holds what its term asks
        have cell : ∀ (i : Nat) (d : D), (flatTm ts)[i]? = some d → ∃ v, w.cell? ⟨b, o + i, none⟩ = some v ∧ DM w (fun _ => True) d v := by
          intro i d hd
          have hi : i < ts.length * 9 := by
            rw [← flatTm_len]
            exact (List.getElem?_eq_some_iff.1 hd).1
          obtain ⟨j, k, hj, hk, rfl⟩ : ∃ j k, j < ts.length ∧ k < 9 ∧ i = j * 9 + k := ⟨i / 9, i % 9, by omega, by omega, by omega⟩
          rw [flatTm_at ts j k hj hk, Tm.ds_eq, at_ j hj] at hd
          obtain ⟨⟨tp, tc, rp, rc, p, c, h9, hT⟩, _⟩ := hf j (by omega)
          have h := h9 k hk
          match k, hk with
          | 0, _ => cases hd; exact ⟨_, h, .cell _⟩
          | 1, _ => cases hd; exact ⟨_, h, .cell _⟩
          | 2, _ => cases hd; exact ⟨_, h, .cell _⟩
          | 3, _ => cases hd; exact ⟨_, h, .cell _⟩
          | 4, _ => cases hd; exact ⟨_, h, .cell _⟩
          | 5, _ => cases hd; exact ⟨_, h, hT.ty.dm⟩
          | 6, _ => cases hd; exact ⟨_, h, .cell _⟩
          | 7, _ => cases hd; exact ⟨_, h, hT.res.dm⟩
          | 8, _ => cases hd; exact ⟨_, h, hT.args⟩
          | n + 9, hk => omega
        have pick : ∀ i, i < ts.length * 9 → ∃ v : Value, w.cell? ⟨b, o + i, none⟩ = some v ∧ ∀ d, (flatTm ts)[i]? = some d → DM w (fun _ => True) d v := by
          intro i hi
          obtain ⟨v, h1, h2⟩ := cell i _ (List.getElem?_eq_getElem (by rw [flatTm_len]; exact hi))
          refine ⟨v, h1, fun d hd => ?_⟩
          rw [List.getElem?_eq_getElem (by rw [flatTm_len]; exact hi)] at hd
          exact (Option.some.inj hd) ▸ h2
        haveI : Inhabited Value := ⟨.int .i64 0⟩
        obtain ⟨V, hV⟩ := Go.Deep.choose_lt (α := Value) pick
        refine ⟨_, ts, rfl, ?_, fitS_of ts fun j hj => ?_⟩
        · have key := DM.rows (w := w) (C := fun _ => True) (T := 35) (k := 9) (n := ts.length) (b := b) (o := o) (c := cap) (ds := flatTm ts) V (by omega) (by omega) (by unfold maxLen at hm; omega) (flatTm_len ts) trivial hb
            (fun i d hd => (hV i (by rw [← flatTm_len]; exact (List.getElem?_eq_some_iff.1 hd).1)).1) (fun i d hd => (hV i (by rw [← flatTm_len]; exact (List.getElem?_eq_some_iff.1 hd).1)).2 d hd)
          rw [hts] at key
          show DM w _ (.rows _ 9 ts.length (flatTm ts)) _
          rw [hts]
          exact key
        · rw [at_ j hj]
          exact (hf j (by omega)).2
end

set_option maxRecDepth 100000 in
theorem open_term {H : Type} {enc : TypeId × Value → H} {W : World} {spare : Nat → Bool} {held : Bool} {r : Reach} {b0 : Nat} {v : Value} {d : DataW H} {p : List MemPlace}
    (hv : Value.okWide Tryd.prog W r b0 27 v) (h : DataW.Trod enc Tryd.prog W 0 spare held 27 v d p) : ∃ t : Tm, TM W (fun _ => True) t v ∧ t.fit := by
  obtain ⟨cs, rfl, hsz⟩ := okWide_struct Tryd.underlying27 hv
  obtain ⟨fuel, hf⟩ := h
  obtain ⟨t, tp, tc, rp, rc, p, c, hcs, ht, hfit⟩ := (open_tm fuel).1 _ _ hf
  have hcs' : cs = tmC t tp tc rp rc p c := by
    have : cs.toList = (tmC t tp tc rp rc p c).toList := hcs
    exact Array.toList_inj.1 this
  subst hcs'
  exact ⟨t, ⟨tp, tc, rp, rc, p, c, rfl, ht⟩, hfit⟩
end Go.Proofs.YtfeijijeohfpgaaDoor
namespace Go.Proofs.YtfeijijeohfpgaaDoor
open Go

theorem str_inj {a b : ByteArray} (h : a.toList = b.toList) : a = b := by
  rw [ByteArray.toList_eq, ByteArray.toList_eq] at h
  obtain ⟨⟨a⟩⟩ := a
  obtain ⟨⟨b⟩⟩ := b
  rw [show a = b from h]
theorem str_yes {a b : ByteArray} (h : a = b) : (a.toList == b.toList) = true := by rw [h]; simp
theorem str_no {a b : ByteArray} (h : ¬ a = b) : (a.toList == b.toList) = false := by
  rw [beq_eq_false_iff_ne]
  exact fun hc => h (str_inj hc)
end Go.Proofs.YtfeijijeohfpgaaDoor
namespace Go.Proofs.YtfeijijeohfpgaaDoor
open Go Go.RowKit

set_option maxRecDepth 100000 in
set_option maxHeartbeats 2000000 in
theorem eqM_of {C C' : Nat → Prop} {t u : Tm} {tp rp p tp' rp' p' : Option Addr} {tc rc c tc' rc' c' : Nat} {w : World} (hT : TM' w C t tp tc rp rc p c) (hU : TM' w C' u tp' tc' rp' rc' p' c')
    (h : ∀ (w' : World), Below w.heap.size w w' → Calls Tryd.prog 38 #[.slice p t.args.length c, .slice p' u.args.length c'] w' (BoolRet (fun b => b = true ↔ t.args = u.args) w')) :
    Calls Tryd.prog 14 #[tmV t tp tc rp rc p c, tmV u tp' tc' rp' rc' p' c'] w (BoolRet (fun b => b = true ↔ t = u) w) := by
  have HH := Lib.hid h
  have HT := Lib.hid hT
  have HU := Lib.hid hU
  have hb1 := al_below w (.cells (tmC t tp tc rp rc p c) 35)
  have hb2 := al_below (w.alloc (.cells (tmC t tp tc rp rc p c) 35)) (.cells (tmC u tp' tc' rp' rc' p' c') 35)
  have hx2 := Bx9.new (w.alloc (.cells (tmC t tp tc rp rc p c) 35)) u tp' tc' rp' rc' p' c' 35
  rw [World.size_alloc] at hx2
  have HX1 := Lib.hid ((Bx9.new w t tp tc rp rc p c 35).keep hb2)
  have HX2 := Lib.hid hx2
  have HB0 := Lib.hid (hb1.trans (hb2.mono (by simp)))
  clear h hT hU hb1 hb2 hx2
  go_enter Tryd.func14, Tryd.ntmps14
  by_cases hk : t.kind = u.kind
  rotate_left
  · go_wp2_with fail
    go_ret
    exact ⟨false, by simp; exact fun e => hk (by rw [e]), rfl, HB0.out⟩
  have hk1 : t.kind ≤ u.kind := by omega
  have hk2 : u.kind ≤ t.kind := by omega
  have HK := Lib.hid hk
  clear hk
  by_cases hn : t.name = u.name
  rotate_left
  · have hn1 := str_no hn
    have HN := Lib.hid hn
    clear hn
    go_wp2_with fail
    go_ret
    exact ⟨false, by simp; exact fun e => HN.out (by rw [e]), rfl, HB0.out⟩
  have hn1 := str_yes hn
  have HN := Lib.hid hn
  clear hn
  by_cases ho : t.other = u.other
  rotate_left
  · have ho1 := str_no ho
    have HO := Lib.hid ho
    clear ho
    go_wp2_with fail
    go_ret
    exact ⟨false, by simp; exact fun e => HO.out (by rw [e]), rfl, HB0.out⟩
  have ho1 := str_yes ho
  have HO := Lib.hid ho
  clear ho
  by_cases hi : t.n = u.n
  rotate_left
  · go_wp2_with fail
    go_ret
    exact ⟨false, by simp; exact fun e => hi (by rw [e]), rfl, HB0.out⟩
  have HC3 := Lib.hid (eqT_any (C := C) (C' := C') (t := t.ty) (u := u.ty) (v := .agg #[.int .i64 t.ty.kind, .slice tp t.ty.args.length tc]) (x := .agg #[.int .i64 u.ty.kind, .slice tp' u.ty.args.length tc']) ⟨_, rfl, HT.out.ty.stays (.of_below HB0.out)⟩ ⟨_, rfl, HU.out.ty.stays (.of_below HB0.out)⟩)
  have hi1 : t.n ≤ u.n := by omega
  have hi2 : u.n ≤ t.n := by omega
  have HI := Lib.hid hi
  clear hi
  go_wp2_with fail
  refine HC3.out.mono ?_
  rintro e w3 ⟨r3, hr3, rfl, hb3⟩
  have HR3 := Lib.hid hr3
  have HB3 := Lib.hid (HB0.out.trans (hb3.mono HB0.out.size))
  have HX13 := Lib.hid (HX1.out.keep hb3)
  have HX23 := Lib.hid (HX2.out.keep hb3)
  obtain ⟨_, _, _, _, _, _, g6, g7, _⟩ := HX1.out.keep hb3
  obtain ⟨_, _, _, _, _, _, d6, d7, _⟩ := HX2.out.keep hb3
  clear hr3 hb3 HC3
  cases r3
  · go_wp2_with fail
    go_ret
    exact ⟨false, by simp; exact fun e => (by have := HR3.out.2 (by rw [e]); cases this), rfl, HB3.out⟩
  have HC4 := Lib.hid (eqT_any (C := C) (C' := C') (t := t.res) (u := u.res) (v := .agg #[.int .i64 t.res.kind, .slice rp t.res.args.length rc]) (x := .agg #[.int .i64 u.res.kind, .slice rp' u.res.args.length rc']) ⟨_, rfl, HT.out.res.stays (.of_below HB3.out)⟩ ⟨_, rfl, HU.out.res.stays (.of_below HB3.out)⟩)
  go_wp2_with fail
  refine HC4.out.mono ?_
  rintro e w4 ⟨r4, hr4, rfl, hb4⟩
  have HR4 := Lib.hid hr4
  have HB4 := Lib.hid (HB3.out.trans (hb4.mono HB3.out.size))
  clear g6 g7 d6 d7
  obtain ⟨_, _, _, _, _, _, _, _, g8⟩ := HX13.out.keep hb4
  obtain ⟨_, _, _, _, _, _, _, _, d8⟩ := HX23.out.keep hb4
  clear hr4 hb4 HC4
  cases r4
  · go_wp2_with fail
    go_ret
    exact ⟨false, by simp; exact fun e => (by have := HR4.out.2 (by rw [e]); cases this), rfl, HB4.out⟩
  have HC5 := Lib.hid (HH.out w4 HB4.out)
  go_wp2_with fail
  refine HC5.out.mono ?_
  rintro e w5 ⟨r5, hr5, rfl, hb5⟩
  have HR5 := Lib.hid hr5
  have HB5 := Lib.hid (HB4.out.trans (hb5.mono HB4.out.size))
  clear hr5 hb5 HC5
  cases r5
  · go_wp2_with fail
    go_ret
    exact ⟨false, by simp; exact fun e => (by have := HR5.out.2 (by rw [e]); cases this), rfl, HB5.out⟩
  · go_wp2_with fail
    go_ret
    exact ⟨true, by simp only [true_iff]; exact Tm.ext' HK.out HN.out HO.out HI.out (by simpa using HR3.out) (by simpa using HR4.out) (by simpa using HR5.out), rfl, HB5.out⟩

theorem keep18 {w W w1 : World} {p0 p1 p2 p3 p4 p5 p6 p7 p8 p9 p10 p11 p12 p13 p14 p15 p16 p17 : Addr} {v0 v1 v2 v3 v4 v5 v6 v7 v8 v9 v10 v11 v12 v13 v14 v15 v16 v17 : Value} (hb1 : Below W.heap.size W w1) (h : W.cell? p0 = some v0 ∧ W.cell? p1 = some v1 ∧ W.cell? p2 = some v2 ∧ W.cell? p3 = some v3 ∧ W.cell? p4 = some v4 ∧ W.cell? p5 = some v5 ∧ W.cell? p6 = some v6 ∧ W.cell? p7 = some v7 ∧ W.cell? p8 = some v8 ∧ W.cell? p9 = some v9 ∧ W.cell? p10 = some v10 ∧ W.cell? p11 = some v11 ∧ W.cell? p12 = some v12 ∧ W.cell? p13 = some v13 ∧ W.cell? p14 = some v14 ∧ W.cell? p15 = some v15 ∧ W.cell? p16 = some v16 ∧ W.cell? p17 = some v17 ∧ Below w.heap.size w W) : w1.cell? p0 = some v0 ∧ w1.cell? p1 = some v1 ∧ w1.cell? p2 = some v2 ∧ w1.cell? p3 = some v3 ∧ w1.cell? p4 = some v4 ∧ w1.cell? p5 = some v5 ∧ w1.cell? p6 = some v6 ∧ w1.cell? p7 = some v7 ∧ w1.cell? p8 = some v8 ∧ w1.cell? p9 = some v9 ∧ w1.cell? p10 = some v10 ∧ w1.cell? p11 = some v11 ∧ w1.cell? p12 = some v12 ∧ w1.cell? p13 = some v13 ∧ w1.cell? p14 = some v14 ∧ w1.cell? p15 = some v15 ∧ w1.cell? p16 = some v16 ∧ w1.cell? p17 = some v17 ∧ Below w.heap.size w w1 := by
  obtain ⟨h0, h1, h2, h3, h4, h5, h6, h7, h8, h9, h10, h11, h12, h13, h14, h15, h16, h17, hz⟩ := h
  exact ⟨keepN hb1 h0, keepN hb1 h1, keepN hb1 h2, keepN hb1 h3, keepN hb1 h4, keepN hb1 h5, keepN hb1 h6, keepN hb1 h7, keepN hb1 h8, keepN hb1 h9, keepN hb1 h10, keepN hb1 h11, keepN hb1 h12, keepN hb1 h13, keepN hb1 h14, keepN hb1 h15, keepN hb1 h16, keepN hb1 h17, hz.trans (hb1.mono hz.size)⟩

theorem tm_take_eq {ts us : List Tm} {k : Nat} (h : ts.take k = us.take k) (h1 : k < ts.length) (h2 : k < us.length) (he : ts[k] = us[k]) : ts.take (k + 1) = us.take (k + 1) := by
  rw [List.take_add_one, List.take_add_one, h, List.getElem?_eq_getElem h1, List.getElem?_eq_getElem h2, he]
theorem tm_ne_at {ts us : List Tm} {k : Nat} (h1 : k < ts.length) (h2 : k < us.length) (hn : ¬ ts[k] = us[k]) : ts ≠ us := by
  intro e; subst e; exact hn rfl

set_option maxRecDepth 100000 in
set_option maxHeartbeats 2000000 in
theorem eqMS_any {w0 : World} {C : Nat → Prop} {ts : List Tm} {v : Value} (h : DM w0 C (tmD ts) v) : ∀ (w : World) (C' : Nat → Prop) (us : List Tm) (u : Value), Stays C w0 w → DM w C' (tmD us) u →
    Calls Tryd.prog 38 #[v, u] w (BoolRet (fun b => b = true ↔ ts = us) w) := by
  refine tm_ind (motive := fun ts v => ∀ (w : World) (C' : Nat → Prop) (us : List Tm) (u : Value), Stays C w0 w → DM w C' (tmD us) u → Calls Tryd.prog 38 #[v, u] w (BoolRet (fun b => b = true ↔ ts = us) w)) ?_ _ (Nat.le_refl _) h
  intro ts q d hlen0 H w C' us u hst hu
  obtain ⟨q', d', rfl⟩ := hu.form
  have hlen' := hu.len.1
  have HH := Lib.hid H
  have HST := Lib.hid hst
  have HU := Lib.hid hu
  clear H hst hu
  go_enter Tryd.func38, Tryd.ntmps38
  by_cases hlen : ts.length = us.length
  rotate_left
  · have hne : ¬ (ts = us) := fun e => hlen (by rw [e])
    have HN := Lib.hid hne
    clear hne
    go_wp2_with fail
    go_ret
    exact ⟨false, by simpa using HN.out, rfl, Below.refl _ _⟩
  have HL := Lib.hid hlen
  rw [← hlen]
  clear hlen
  go_wp2_with fail
  go_loopw [5] (fun i wr => ∃ (k : Nat), k ≤ ts.length ∧ i = .int .i64 k ∧ ts.take k = us.take k ∧ Below w.heap.size w wr) (fun i _ => ts.length - (intOf i).toNat)
  case atStart => exact ⟨0, Nat.zero_le _, rfl, by simp, Below.refl _ _⟩
  case round =>
    obtain ⟨k, hk, rfl, htk, hbr⟩ := hrel
    have HTK := Lib.hid htk
    have HB := Lib.hid hbr
    have HSR := Lib.hid (HST.out.trans (Stays.of_below (C := C) hbr))
    clear htk
    by_cases hlk : k < ts.length
    · have hlk2 : k < us.length := by rw [← HL.out]; exact hlk
      obtain ⟨b, o, tp, tc, rp, rc, p, c, rfl, hC, hb, h9, hT, hI⟩ := HH.out k hlk
      obtain ⟨b2, o2, tp2, tc2, rp2, rc2, p2, c2, rfl, hC2, hb2, h92, hT2⟩ := tm_part HU.out k hlk2
      obtain ⟨g0, g1, g2, g3, g4, g5, g6, g7, g8⟩ := h9 wr HSR.out
      obtain ⟨d0, d1, d2, d3, d4, d5, d6, d7, d8⟩ := h92 wr (.of_below hbr)
      have HC := Lib.hid (eqM_of (w := wr.drew) (C := C) (C' := C') ((hT.stays HSR.out).stays (.of_below (Below.refl _ _).drew)) ((hT2.stays (.of_below hbr)).stays (.of_below (Below.refl _ _).drew)) (fun w' hw' => by
        have hw1 : Below wr.heap.size wr w' := (Below.refl _ _).drew.trans hw'
        exact hI w' C' _ _ (HSR.out.trans (.of_below hw1)) ((hT2.stays (.of_below hbr)).args.stays (.of_below hw1))))
      have i0 : (0 : Int) ≤ (k : Int) := Int.natCast_nonneg _
      have i1 : (k : Int) < (ts.length : Int) := by omega
      clear hC hb h9 hT hI hC2 hb2 h92 hT2 hbr
      go_wp2_with fail
      go_region_held3 (fun w' => w'.cell? ⟨b, o + k * 9, none⟩ = some (.int .i64 ts[k].kind) ∧ w'.cell? ⟨b, o + k * 9 + 1, none⟩ = some (.string ts[k].name) ∧ w'.cell? ⟨b, o + k * 9 + 2, none⟩ = some (.string ts[k].other) ∧ w'.cell? ⟨b, o + k * 9 + 3, none⟩ = some (.int .i64 ts[k].n) ∧ w'.cell? ⟨b, o + k * 9 + 4, none⟩ = some (.int .i64 ts[k].ty.kind) ∧ w'.cell? ⟨b, o + k * 9 + 5, none⟩ = some (.slice tp ts[k].ty.args.length tc) ∧ w'.cell? ⟨b, o + k * 9 + 6, none⟩ = some (.int .i64 ts[k].res.kind) ∧ w'.cell? ⟨b, o + k * 9 + 7, none⟩ = some (.slice rp ts[k].res.args.length rc) ∧ w'.cell? ⟨b, o + k * 9 + 8, none⟩ = some (.slice p ts[k].args.length c) ∧ w'.cell? ⟨b2, o2 + k * 9, none⟩ = some (.int .i64 us[k].kind) ∧ w'.cell? ⟨b2, o2 + k * 9 + 1, none⟩ = some (.string us[k].name) ∧ w'.cell? ⟨b2, o2 + k * 9 + 2, none⟩ = some (.string us[k].other) ∧ w'.cell? ⟨b2, o2 + k * 9 + 3, none⟩ = some (.int .i64 us[k].n) ∧ w'.cell? ⟨b2, o2 + k * 9 + 4, none⟩ = some (.int .i64 us[k].ty.kind) ∧ w'.cell? ⟨b2, o2 + k * 9 + 5, none⟩ = some (.slice tp2 us[k].ty.args.length tc2) ∧ w'.cell? ⟨b2, o2 + k * 9 + 6, none⟩ = some (.int .i64 us[k].res.kind) ∧ w'.cell? ⟨b2, o2 + k * 9 + 7, none⟩ = some (.slice rp2 us[k].res.args.length rc2) ∧ w'.cell? ⟨b2, o2 + k * 9 + 8, none⟩ = some (.slice p2 us[k].args.length c2) ∧ Below w.heap.size w w')
        (first
          | (go_keep; done)
          | exact ⟨g0, g1, g2, g3, g4, g5, g6, g7, g8, d0, d1, d2, d3, d4, d5, d6, d7, d8, HB.out.drew⟩
          | exact keep18 hb1 (by assumption))
        (first
          | (go_at_call 14; refine HC.out.mono ?_; rintro e w1 ⟨r, hr, rfl, hb1⟩))
      have HR := Lib.hid hr
      have HB1 := Lib.hid (HB.out.trans (((Below.refl _ _).drew.trans hb1).mono HB.out.size))
      rename_i hH
      clear hH hb1 hr g0 g1 g2 g3 g4 g5 g6 g7 g8 d0 d1 d2 d3 d4 d5 d6 d7 d8
      cases r with
      | true =>
        go_wp2_with fail
        go_roundw
        case rel => exact ⟨k + 1, by omega, by go_num, tm_take_eq HTK.out hlk hlk2 (HR.out.1 rfl), HB1.out⟩
        case measure => simp [intOf]; omega
      | false =>
        go_wp2_with fail
        go_ret
        exact ⟨false, by simpa using tm_ne_at hlk hlk2 (fun e => by simpa using HR.out.2 e), rfl, HB1.out⟩
    · obtain rfl : k = ts.length := by omega
      have htk : ts = us := by
        have := HTK.out
        rw [List.take_length, HL.out, List.take_length] at this
        exact this
      have HE := Lib.hid htk
      clear htk
      go_wp2_with fail
      go_ret
      exact ⟨true, by simpa using HE.out, rfl, HB.out⟩
theorem eqM_any {C C' : Nat → Prop} {t u : Tm} {v x : Value} {w : World} (h : TM w C t v) (h2 : TM w C' u x) :
    Calls Tryd.prog 14 #[v, x] w (BoolRet (fun b => b = true ↔ t = u) w) := by
  obtain ⟨tp, tc, rp, rc, p, c, rfl, hT⟩ := h
  obtain ⟨tp2, tc2, rp2, rc2, p2, c2, rfl, hU⟩ := h2
  exact eqM_of hT hU (fun w' hb => eqMS_any hT.args w' _ _ _ (.of_below hb) (hU.args.keep hb))
end Go.Proofs.YtfeijijeohfpgaaDoor
namespace Go.Proofs.YtfeijijeohfpgaaDoor
open Go Go.RowKit

theorem infoTm : (Tryd.prog.info? 35).map (fun i => (i.zero, i.size, i.bytes)) = some (some (.agg #[.int .i64 0, .string ⟨#[]⟩, .string ⟨#[]⟩, .int .i64 0, .int .i64 0, .slice none 0 0, .int .i64 0, .slice none 0 0, .slice none 0 0]), 9, 136) := by kernel_rfl
abbrev tmL (t : Tm) (tp : Option Addr) (tc : Nat) (rp : Option Addr) (rc : Nat) (p : Option Addr) (c : Nat) : List Value :=
  [.int .i64 t.kind, .string t.name, .string t.other, .int .i64 t.n, .int .i64 t.ty.kind, .slice tp t.ty.args.length tc, .int .i64 t.res.kind, .slice rp t.res.args.length rc, .slice p t.args.length c]
def OMv (w : World) (t : Tm) (v : Value) (F : Nat → Prop) : Prop := ∃ tp tc rp rc p c, v = tmV t tp tc rp rc p c ∧ OSt w t.ds (tmL t tp tc rp rc p c) F
theorem OSt.tm {w : World} {t : Tm} {tp rp p : Option Addr} {tc rc c : Nat} {F : Nat → Prop} (h : OSt w t.ds (tmL t tp tc rp rc p c) F) : TM' w F t tp tc rp rc p c := by
  have hm := h.ms.2
  rw [t.ds_eq] at hm
  exact ⟨(hm 5 _ _ rfl rfl).ts _ (Nat.le_refl _), (hm 7 _ _ rfl rfl).ts _ (Nat.le_refl _), hm 8 _ _ rfl rfl⟩
theorem OMv.tm {w : World} {t : Tm} {v : Value} {F : Nat → Prop} (h : OMv w t v F) : TM w F t v := by
  obtain ⟨tp, tc, rp, rc, p, c, hv, h⟩ := h
  exact ⟨tp, tc, rp, rc, p, c, hv, h.tm⟩
theorem OMv.stays {w w' : World} {t : Tm} {v : Value} {F : Nat → Prop} (h : OMv w t v F) (hs : Stays F w w') : OMv w' t v F := by
  obtain ⟨tp, tc, rp, rc, p, c, hv, h⟩ := h
  exact ⟨tp, tc, rp, rc, p, c, hv, h.stays hs⟩
theorem OMv.keep {w w' : World} {t : Tm} {v : Value} {F : Nat → Prop} (h : OMv w t v F) (hb : Below w.heap.size w w') : OMv w' t v F := h.stays (.of_below hb)
theorem OSt9 {w : World} {t : Tm} {tp rp p : Option Addr} {tc rc c : Nat} {F F1 F2 F3 : Nat → Prop} (h1 : OS w t.ty.args (.slice tp t.ty.args.length tc) F1) (h2 : OS w t.res.args (.slice rp t.res.args.length rc) F2) (h3 : DO w (tmD t.args) (.slice p t.args.length c) F3)
    (a1 : ∀ z, F1 z → F z ∧ ¬ F2 z ∧ ¬ F3 z) (a2 : ∀ z, F2 z → F z ∧ ¬ F3 z) (a3 : ∀ z, F3 z → F z) : OSt w t.ds (tmL t tp tc rp rc p c) F := by
  refine ⟨by rw [t.ds_len]; rfl, fun i z => (i = 5 ∧ F1 z) ∨ (i = 7 ∧ F2 z) ∨ (i = 8 ∧ F3 z), fun i d v hd hv => ?_, fun i z _ hz => ?_, fun i j z _ _ hij hz1 hz2 => ?_⟩
  · rw [t.ds_eq] at hd
    match i, hd, hv with
    | 0, hd, hv => cases hd; cases hv; exact .cell _ _
    | 1, hd, hv => cases hd; cases hv; exact .cell _ _
    | 2, hd, hv => cases hd; cases hv; exact .cell _ _
    | 3, hd, hv => cases hd; cases hv; exact .cell _ _
    | 4, hd, hv => cases hd; cases hv; exact .cell _ _
    | 5, hd, hv => cases hd; cases hv; exact h1.dO.mono (fun z hz => Or.inl ⟨rfl, hz⟩)
    | 6, hd, hv => cases hd; cases hv; exact .cell _ _
    | 7, hd, hv => cases hd; cases hv; exact h2.dO.mono (fun z hz => Or.inr (Or.inl ⟨rfl, hz⟩))
    | 8, hd, hv => cases hd; cases hv; exact h3.mono (fun z hz => Or.inr (Or.inr ⟨rfl, hz⟩))
    | n + 9, hd, hv => simp at hv
  · rcases hz with ⟨_, hz⟩ | ⟨_, hz⟩ | ⟨_, hz⟩
    · exact (a1 z hz).1
    · exact (a2 z hz).1
    · exact a3 z hz
  · rcases hz1 with ⟨rfl, h1⟩ | ⟨rfl, h1⟩ | ⟨rfl, h1⟩ <;> rcases hz2 with ⟨rfl, h2⟩ | ⟨rfl, h2⟩ | ⟨rfl, h2⟩
    · exact hij rfl
    · exact (a1 z h1).2.1 h2
    · exact (a1 z h1).2.2 h2
    · exact (a1 z h2).2.1 h1
    · exact hij rfl
    · exact (a2 z h1).2 h2
    · exact (a1 z h2).2.2 h1
    · exact (a2 z h2).2 h1
    · exact hij rfl
def NewM (t : Tm) (w : World) (e : Ending) (w' : World) : Prop := ∃ v, e = .returned v ∧ OMv w' t v (fun g => w.heap.size ≤ g ∧ g < w'.heap.size) ∧ Below w.heap.size w w'
def NewMS (ts : List Tm) (w : World) (e : Ending) (w' : World) : Prop := ∃ v, e = .returned v ∧ DO w' (tmD ts) v (fun g => w.heap.size ≤ g ∧ g < w'.heap.size) ∧ Below w.heap.size w w'

set_option maxRecDepth 100000 in
set_option maxHeartbeats 2000000 in
theorem toM_of {C : Nat → Prop} {t : Tm} {tp rp p : Option Addr} {tc rc c : Nat} {w : World} (hT : TM' w C t tp tc rp rc p c) (hn : t.wt ≤ 1048576)
    (h : ∀ (w' : World), Below w.heap.size w w' → Calls Tryd.prog 34 #[.slice p t.args.length c] w' (NewMS t.args w')) :
    Calls Tryd.prog 12 #[tmV t tp tc rp rc p c] w (NewM t w) := by
  have hwt := t.wt_eq
  have n1 : nodesS t.ty.args ≤ 1048576 := by omega
  have n2 : nodesS t.res.args ≤ 1048576 := by omega
  obtain ⟨⟨k0, k1, k2⟩, hsz, hbl⟩ := chain3 w (.cells (tmC t tp tc rp rc p c) 27) (.cells #[.int .i64 0, .string ⟨#[]⟩, .string ⟨#[]⟩, .int .i64 0, .int .i64 0, .slice none 0 0, .int .i64 0, .slice none 0 0, .slice none 0 0] 35)
    (.cells #[.int .i64 t.kind, .string t.name, .string t.other, .int .i64 t.n, .int .i64 0, .slice none 0 0, .int .i64 0, .slice none 0 0, .slice none 0 0] 35)
  have HH := Lib.hid h
  have HT := Lib.hid hT
  have HK0 := Lib.hid k0
  have HK1 := Lib.hid k1
  have HK2 := Lib.hid k2
  have HSZ := Lib.hid hsz
  have HBL := Lib.hid hbl
  clear h hT hwt hn k0 k1 k2 hsz hbl
  go_enter Tryd.func12, Tryd.ntmps12
  go_wp2_with fail
  refine (toT_any (C := C) (t := t.ty) (v := .agg #[.int .i64 t.ty.kind, .slice tp t.ty.args.length tc]) ⟨_, rfl, HT.out.ty.keep HBL.out⟩ n1).mono ?_
  rintro e w1 ⟨v1, rfl, ⟨s1, rfl, ho1⟩, hb1⟩
  obtain ⟨p1, c1, rfl⟩ := ho1.form
  have hb1s := hb1.size
  rw [HSZ.out] at hb1 hb1s ho1
  have q0 := (hb1.block w.heap.size (by omega)).trans HK0.out
  have q1 := (hb1.block (w.heap.size + 1) (by omega)).trans HK1.out
  have q2 := (hb1.block (w.heap.size + 1 + 1) (by omega)).trans HK2.out
  obtain ⟨_, _, _, _, _, _, x6, x7, x8⟩ := Bx9.of q0
  have y4 : w1.cell? ⟨w.heap.size + 1 + 1, 4, none⟩ = some (.int .i64 0) := cell_of_blk q2 4
  have y5 : w1.cell? ⟨w.heap.size + 1 + 1, 5, none⟩ = some (.slice none 0 0) := cell_of_blk q2 5
  have yz := unfrozen_of_blk q2
  have e2 := heap_setCell_same _ _ 5 _ _ (.slice p1 t.ty.args.length c1) (heap_setCell_same w1 _ 4 _ _ (.int .i64 t.ty.kind) q2)
  have st : ∀ F : Nat → Prop, ¬ F (w.heap.size + 1 + 1) → Stays F w1 ((w1.setCell ⟨w.heap.size + 1 + 1, 4, none⟩ (.int .i64 t.ty.kind)).setCell ⟨w.heap.size + 1 + 1, 5, none⟩ (.slice p1 t.ty.args.length c1)) := fun F hF => (setCell_stays _ _ _ _ F hF).trans (setCell_stays _ _ _ _ F hF)
  have HS1 := Lib.hid (st (fun z => z ≠ w.heap.size + 1 + 1) (by simp))
  have HO1 := Lib.hid (ho1.stays (st _ (by omega)))
  have HQ0 := Lib.hid ((HS1.out.2 w.heap.size (by omega) (by omega)).trans q0)
  have HQ1 := Lib.hid ((HS1.out.2 (w.heap.size + 1) (by omega) (by omega)).trans q1)
  have HQ2 := Lib.hid e2
  have hB2 : Below w.heap.size w ((w1.setCell ⟨w.heap.size + 1 + 1, 4, none⟩ (.int .i64 t.ty.kind)).setCell ⟨w.heap.size + 1 + 1, 5, none⟩ (.slice p1 t.ty.args.length c1)) :=
    ((HBL.out.trans (hb1.mono (by omega))).setCell (p := ⟨w.heap.size + 1 + 1, 4, none⟩) (by show w.heap.size ≤ w.heap.size + 1 + 1; omega) _).setCell (p := ⟨w.heap.size + 1 + 1, 5, none⟩) (by show w.heap.size ≤ w.heap.size + 1 + 1; omega) _
  have HB2 := Lib.hid hB2
  have HZ2 := Lib.hid (show ((w1.setCell ⟨w.heap.size + 1 + 1, 4, none⟩ (.int .i64 t.ty.kind)).setCell ⟨w.heap.size + 1 + 1, 5, none⟩ (.slice p1 t.ty.args.length c1)).heap.size = w1.heap.size by simp [World.setCell])
  have HC2 := Lib.hid (toT_any (C := C) (t := t.res) (v := .agg #[.int .i64 t.res.kind, .slice rp t.res.args.length rc]) ⟨_, rfl, HT.out.res.keep hB2⟩ n2)
  have L1 := Lib.hid hb1s
  clear q0 q1 q2 e2 st hB2 ho1 hb1 hb1s
  go_wp2_with fail
  refine HC2.out.mono ?_
  rintro e w2 ⟨v2, rfl, ⟨s2, rfl, ho2⟩, hb2⟩
  obtain ⟨p2, c2, rfl⟩ := ho2.form
  have hb2s := hb2.size
  rw [HZ2.out] at hb2 hb2s ho2
  have hl1 := L1.out
  have q0 := (hb2.block w.heap.size (by omega)).trans HQ0.out
  have q1 := (hb2.block (w.heap.size + 1) (by omega)).trans HQ1.out
  have q2 := (hb2.block (w.heap.size + 1 + 1) (by omega)).trans HQ2.out
  clear x6 x7 x8 y4 y5 yz
  obtain ⟨_, _, _, _, _, _, _, _, x8⟩ := Bx9.of q0
  have y6 : w2.cell? ⟨w.heap.size + 1 + 1, 6, none⟩ = some (.int .i64 0) := cell_of_blk q2 6
  have y7 : w2.cell? ⟨w.heap.size + 1 + 1, 7, none⟩ = some (.slice none 0 0) := cell_of_blk q2 7
  have yz := unfrozen_of_blk q2
  have e2 := heap_setCell_same _ _ 7 _ _ (.slice p2 t.res.args.length c2) (heap_setCell_same w2 _ 6 _ _ (.int .i64 t.res.kind) q2)
  have st : ∀ F : Nat → Prop, ¬ F (w.heap.size + 1 + 1) → Stays F w2 ((w2.setCell ⟨w.heap.size + 1 + 1, 6, none⟩ (.int .i64 t.res.kind)).setCell ⟨w.heap.size + 1 + 1, 7, none⟩ (.slice p2 t.res.args.length c2)) := fun F hF => (setCell_stays _ _ _ _ F hF).trans (setCell_stays _ _ _ _ F hF)
  have HS2 := Lib.hid (st (fun z => z ≠ w.heap.size + 1 + 1) (by simp))
  have HO12 := Lib.hid ((HO1.out.stays (.of_below (HZ2.out.symm ▸ hb2))).stays (st _ (by omega)))
  have HO2 := Lib.hid (ho2.stays (st _ (by omega)))
  have HP0 := Lib.hid ((HS2.out.2 w.heap.size (by omega) (by omega)).trans q0)
  have HP1 := Lib.hid ((HS2.out.2 (w.heap.size + 1) (by omega) (by omega)).trans q1)
  have HP2 := Lib.hid e2
  have hB3 : Below w.heap.size w ((w2.setCell ⟨w.heap.size + 1 + 1, 6, none⟩ (.int .i64 t.res.kind)).setCell ⟨w.heap.size + 1 + 1, 7, none⟩ (.slice p2 t.res.args.length c2)) :=
    ((HB2.out.trans (hb2.mono (by omega))).setCell (p := ⟨w.heap.size + 1 + 1, 6, none⟩) (by show w.heap.size ≤ w.heap.size + 1 + 1; omega) _).setCell (p := ⟨w.heap.size + 1 + 1, 7, none⟩) (by show w.heap.size ≤ w.heap.size + 1 + 1; omega) _
  have HB3 := Lib.hid hB3
  have HZ3 := Lib.hid (show ((w2.setCell ⟨w.heap.size + 1 + 1, 6, none⟩ (.int .i64 t.res.kind)).setCell ⟨w.heap.size + 1 + 1, 7, none⟩ (.slice p2 t.res.args.length c2)).heap.size = w2.heap.size by simp [World.setCell])
  have HC3 := Lib.hid (HH.out _ hB3)
  have L2 := Lib.hid hb2s
  clear q0 q1 q2 e2 st hB3 ho2 hb2 hb2s hl1
  go_wp2_with fail
  refine HC3.out.mono ?_
  rintro e w3 ⟨v3, rfl, ho3, hb3⟩
  obtain ⟨p3, c3, rfl⟩ := ho3.form
  have hb3s := hb3.size
  rw [HZ3.out] at hb3 hb3s ho3
  have hl1 := L1.out
  have hl2 := L2.out
  have q1 := (hb3.block (w.heap.size + 1) (by omega)).trans HP1.out
  have q2 := (hb3.block (w.heap.size + 1 + 1) (by omega)).trans HP2.out
  clear x8 y6 y7 yz
  have y0 : w3.cell? ⟨w.heap.size + 1 + 1, 0, none⟩ = some (.int .i64 t.kind) := cell_of_blk q2 0
  have y1 : w3.cell? ⟨w.heap.size + 1 + 1, 1, none⟩ = some (.string t.name) := cell_of_blk q2 1
  have y2 : w3.cell? ⟨w.heap.size + 1 + 1, 2, none⟩ = some (.string t.other) := cell_of_blk q2 2
  have y3 : w3.cell? ⟨w.heap.size + 1 + 1, 3, none⟩ = some (.int .i64 t.n) := cell_of_blk q2 3
  have y4 : w3.cell? ⟨w.heap.size + 1 + 1, 4, none⟩ = some (.int .i64 t.ty.kind) := cell_of_blk q2 4
  have y5 : w3.cell? ⟨w.heap.size + 1 + 1, 5, none⟩ = some (.slice p1 t.ty.args.length c1) := cell_of_blk q2 5
  have y6 : w3.cell? ⟨w.heap.size + 1 + 1, 6, none⟩ = some (.int .i64 t.res.kind) := cell_of_blk q2 6
  have y7 : w3.cell? ⟨w.heap.size + 1 + 1, 7, none⟩ = some (.slice p2 t.res.args.length c2) := cell_of_blk q2 7
  have y8 : w3.cell? ⟨w.heap.size + 1 + 1, 8, none⟩ = some (.slice none 0 0) := cell_of_blk q2 8
  have yz := unfrozen_of_blk q2
  have z0 : w3.cell? ⟨w.heap.size + 1, 0, none⟩ = some (.int .i64 0) := cell_of_blk q1 0
  have z1 : w3.cell? ⟨w.heap.size + 1, 1, none⟩ = some (.string ⟨#[]⟩) := cell_of_blk q1 1
  have z2 : w3.cell? ⟨w.heap.size + 1, 2, none⟩ = some (.string ⟨#[]⟩) := cell_of_blk q1 2
  have z3 : w3.cell? ⟨w.heap.size + 1, 3, none⟩ = some (.int .i64 0) := cell_of_blk q1 3
  have z4 : w3.cell? ⟨w.heap.size + 1, 4, none⟩ = some (.int .i64 0) := cell_of_blk q1 4
  have z5 : w3.cell? ⟨w.heap.size + 1, 5, none⟩ = some (.slice none 0 0) := cell_of_blk q1 5
  have z6 : w3.cell? ⟨w.heap.size + 1, 6, none⟩ = some (.int .i64 0) := cell_of_blk q1 6
  have z7 : w3.cell? ⟨w.heap.size + 1, 7, none⟩ = some (.slice none 0 0) := cell_of_blk q1 7
  have z8 : w3.cell? ⟨w.heap.size + 1, 8, none⟩ = some (.slice none 0 0) := cell_of_blk q1 8
  have zz := unfrozen_of_blk q1
  have hb3' : Below _ _ w3 := HZ3.out.symm ▸ hb3
  have HFIN := Lib.hid (OSt9 (t := t) (F := fun g => w.heap.size + 3 ≤ g ∧ g < w3.heap.size) (HO12.out.keep hb3') (HO2.out.keep hb3') ho3 (fun z hz => by omega) (fun z hz => by omega) (fun z hz => by omega))
  have HB4 := Lib.hid (HB3.out.trans (hb3'.mono HB3.out.size))
  clear q1 q2 ho3 hb3 hb3' hb3s hl1 hl2
  go_wp2_with fail
  refine bodyPost_ret (v := tmV t p1 c1 p2 c2 p3 c3) ?_ rfl ?_
  · rw [results_cell1 rfl]
    go_simp
  · refine ⟨_, rfl, ⟨p1, c1, p2, c2, p3, c3, rfl, OSt.mono (OSt.stays HFIN.out ?_) (fun z hz => ⟨by omega, ?_⟩)⟩, ?_⟩
    · iterate 10 (refine Stays.trans ?_ (setCell_stays _ _ _ _ _ (by omega)))
      exact Stays.refl _ _
    · have := hz.2
      simp [World.setCell]
      omega
    iterate 10 (refine Below.setCell ?_ (by dsimp only; omega) _)
    exact HB4.out
end Go.Proofs.YtfeijijeohfpgaaDoor
namespace Go.Proofs.YtfeijijeohfpgaaDoor
open Go Go.RowKit

theorem setN9 (w : World) (b o : Nat) (v0 v1 v2 v3 v4 v5 v6 v7 v8 : Value) : setN w b o [v0, v1, v2, v3, v4, v5, v6, v7, v8] =
    ((((((((w.setCell ⟨b, o, none⟩ v0).setCell ⟨b, o + 1, none⟩ v1).setCell ⟨b, o + 2, none⟩ v2).setCell ⟨b, o + 3, none⟩ v3).setCell ⟨b, o + 4, none⟩ v4).setCell ⟨b, o + 5, none⟩ v5).setCell ⟨b, o + 6, none⟩ v6).setCell ⟨b, o + 7, none⟩ v7).setCell ⟨b, o + 8, none⟩ v8 := rfl

set_option maxRecDepth 100000 in
set_option maxHeartbeats 2000000 in
theorem toMS_any {w0 : World} {C : Nat → Prop} {ts : List Tm} {v : Value} (h : DM w0 C (tmD ts) v) : ∀ (w : World), Stays C w0 w → wtS ts ≤ 1048576 → Calls Tryd.prog 34 #[v] w (NewMS ts w) := by
  obtain ⟨i0, hi, hz0, hz1, hz2⟩ := info_parts infoTm
  refine tm_ind (motive := fun ts v => ∀ (w : World), Stays C w0 w → wtS ts ≤ 1048576 → Calls Tryd.prog 34 #[v] w (NewMS ts w)) ?_ _ (Nat.le_refl _) h
  intro ts q d hlen H w hst hn
  have hge := wtS_ge ts
  have HH := Lib.hid H
  have HST := Lib.hid hst
  clear H hst
  go_enter Tryd.func34, Tryd.ntmps34
  go_wp2_with (at_make; refine wpList_make_full _ rfl _ _ 33 rfl w.heap.size 35 i0 _ 9 Tryd.underlying33 hi hz0 hz1 .i64 .i64 _ _ ts.length rfl rfl rfl rfl ?c1 ?c2 ?c3 ?_)
  case c1 => rw [hz2]; omega
  case c2 => unfold maxLen; omega
  case c3 => exact Nat.le_refl _
  intro w1 hown0 hg
  have hb1 : Below w.heap.size w w1 := (Below.refl _ _).grown hg (Nat.le_refl _) (fun k h => by cases h)
  have HO := Lib.hid (FilD.start (ds := flatTm ts) hown0)
  clear hown0 hg
  go_wp2_with fail
  go_loopw [4] (fun i wr => ∃ k : Nat, k ≤ ts.length ∧ i = .int .i64 k ∧ FilD wr w.heap.size 35 9 ts.length ts.length (flatTm ts) k ∧ Below w.heap.size w wr) (fun i _ => ts.length - (intOf i).toNat)
  case atStart => exact ⟨0, Nat.zero_le _, rfl, HO.out, hb1⟩
  case round =>
    obtain ⟨k, hk, rfl, hfill, hbr⟩ := hrel
    have HFI := Lib.hid hfill
    have HB := Lib.hid hbr
    have HSR := Lib.hid (HST.out.trans (Stays.of_below (C := C) hbr))
    clear hb1 hfill hbr
    by_cases hlk : k < ts.length
    · obtain ⟨b, o, tp, tc, rp, rc, p, c, rfl, hC, hb, h9, hT, hI⟩ := HH.out k hlk
      obtain ⟨g0, g1, g2, g3, g4, g5, g6, g7, g8⟩ := h9 wr HSR.out
      have hwk := wtS_at ts k hlk
      have hwe := ts[k].wt_eq
      have HC := Lib.hid (toM_of (C := C) (hT.stays HSR.out) (by omega) (fun w' hw' => hI w' (HSR.out.trans (.of_below hw')) (by omega)))
      have i0 : (0 : Int) ≤ (k : Int) := Int.natCast_nonneg _
      have i1 : (k : Int) < (ts.length : Int) := by omega
      clear hC hb h9 hT hI hwk hwe
      go_wp2_with fail
      refine HC.out.mono ?_
      rintro e w2 ⟨v, rfl, ⟨tp2, tc2, rp2, rc2, p2, c2, rfl, hos⟩, hb2⟩
      obtain ⟨hrow, hgo⟩ := HFI.out.next hb2 hlk ts[k].ds_len (fun i hi => flatTm_at ts k i hlk hi) hos
      obtain ⟨q0, x0⟩ := hrow 0 (by omega)
      obtain ⟨q1, x1⟩ := hrow 1 (by omega)
      obtain ⟨q2, x2⟩ := hrow 2 (by omega)
      obtain ⟨q3, x3⟩ := hrow 3 (by omega)
      obtain ⟨q4, x4⟩ := hrow 4 (by omega)
      obtain ⟨q5, x5⟩ := hrow 5 (by omega)
      obtain ⟨q6, x6⟩ := hrow 6 (by omega)
      obtain ⟨q7, x7⟩ := hrow 7 (by omega)
      obtain ⟨q8, x8⟩ := hrow 8 (by omega)
      rw [Nat.add_zero] at x0
      have z1 := fun i => HFI.out.frz hb2 i
      have hb3 := (HB.out.trans (hb2.mono HB.out.size)).trans (setN_below (tmL ts[k] tp2 tc2 rp2 rc2 p2 c2) w.heap.size w2 w.heap.size (k * 9) (Nat.le_refl _))
      rw [setN9] at hgo hb3
      have HN := Lib.hid hgo
      have HB2 := Lib.hid hb3
      clear hgo hos hb2 hb3 hrow g0 g1 g2 g3 g4 g5 g6 g7 g8
      go_wp2_with fail
      go_roundw
      case rel => exact ⟨k + 1, by omega, by go_num, HN.out, HB2.out⟩
      case measure => simp [intOf]; omega
    · obtain rfl : k = ts.length := by omega
      go_wp2_with fail
      go_ret
      exact ⟨_, rfl, HFI.out.full (flatTm_len ts) (by unfold maxLen; omega), HB.out⟩
theorem toM_any {C : Nat → Prop} {t : Tm} {v : Value} {w : World} (h : TM w C t v) (hn : t.wt ≤ 1048576) : Calls Tryd.prog 12 #[v] w (NewM t w) := by
  obtain ⟨tp, tc, rp, rc, p, c, rfl, hT⟩ := h
  have hwe := t.wt_eq
  exact toM_of hT hn (fun w' hb => toMS_any hT.args w' (.of_below hb) (by omega))
end Go.Proofs.YtfeijijeohfpgaaDoor
namespace Go.Proofs.YtfeijijeohfpgaaDoor
open Go Go.RowKit

mutual
def Ty.mark : Nat → Ty → Ty
  | k, .mk _ ts => .mk k (markS (k + 1) ts)
def markS : Nat → List Ty → List Ty
  | _, [] => []
  | k, t :: ts => t.mark k :: markS (k + t.nodes) ts
end
theorem mark_kind (k : Nat) (t : Ty) : (t.mark k).kind = k := by cases t; rfl
theorem mark_args (k : Nat) (t : Ty) : (t.mark k).args = markS (k + 1) t.args := by cases t; rfl
theorem markS_at (ts : List Ty) : ∀ (k j : Nat), (markS k ts)[j]? = (ts[j]?).map (fun x => x.mark (k + nodesS (ts.take j))) := by
  induction ts with
  | nil => intro k j; simp [markS]
  | cons t ts ih =>
    intro k j
    cases j with
    | zero => simp [markS, nodesS]
    | succ j => simp only [markS, List.getElem?_cons_succ, ih, List.take_succ_cons, nodesS, Nat.add_assoc]
theorem markS_length (ts : List Ty) : ∀ k : Nat, (markS k ts).length = ts.length := by
  induction ts with
  | nil => intro k; rfl
  | cons t ts ih => intro k; simp [markS, ih]
structure But (F : Nat → Prop) (w w' : World) : Prop where
  size : w.heap.size ≤ w'.heap.size
  kept : ∀ b, b < w.heap.size → ¬ F b → w'.heap[b]? = w.heap[b]?
  below : ∀ base, base ≤ w.heap.size → (∀ b, F b → base ≤ b) → Below base w w'
theorem But.refl (F : Nat → Prop) (w : World) : But F w w := ⟨Nat.le_refl _, fun _ _ _ => rfl, fun base _ _ => Below.refl base w⟩
theorem But.trans {F : Nat → Prop} {a b c : World} (h : But F a b) (k : But F b c) : But F a c :=
  ⟨Nat.le_trans h.size k.size, fun x hx hn => (k.kept x (Nat.lt_of_lt_of_le hx h.size) hn).trans (h.kept x hx hn), fun base hb hF => (h.below base hb hF).trans (k.below base (Nat.le_trans hb h.size) hF)⟩
theorem But.mono {F F' : Nat → Prop} {a b : World} (h : But F a b) (hF : ∀ x, F x → F' x) : But F' a b :=
  ⟨h.size, fun x hx hn => h.kept x hx (fun e => hn (hF x e)), fun base hb hF' => h.below base hb (fun x hx => hF' x (hF x hx))⟩
theorem But.set {F : Nat → Prop} {a w : World} (h : But F a w) {b : Nat} (hb : F b) (o : Nat) (v : Value) : But F a (w.setCell ⟨b, o, none⟩ v) :=
  ⟨by have := h.size; simpa [World.setCell] using this, fun x hx hn => (Below.heap_setCell _ _ _ _ (fun e => hn (by rw [show x = b from e]; exact hb))).trans (h.kept x hx hn), fun base h1 h2 => (h.below base h1 h2).setCell (p := ⟨b, o, none⟩) (h2 b hb) v⟩
theorem But.stays {F G : Nat → Prop} {w w' : World} (h : But F w w') (hd : ∀ x, F x → G x → False) : Stays G w w' := ⟨h.size, fun b hb hl => h.kept b hl (fun e => hd b e hb)⟩
structure MInv (w0 w wr : World) (k : Nat) (ts : List Ty) (b c : Nat) (K : Nat → Int) (S : Nat → Value) (G : Nat → Nat → Prop) (F : Nat → Prop) (j : Nat) : Prop where
  row : Row wr b ts.length c (fun i => if i < j then ((k + nodesS (ts.take i) : Nat) : Int) else K i) S
  done : ∀ i x, i < j → ts[i]? = some x → OS wr (markS (k + nodesS (ts.take i) + 1) x.args) (S i) (G i)
  rest : ∀ i, j ≤ i → i < ts.length → Stays (G i) w0 wr
  but : But F w wr

theorem MInv.next {w0 w wr w2 : World} {k : Nat} {ts : List Ty} {b c : Nat} {K : Nat → Int} {S : Nat → Value} {G : Nat → Nat → Prop} {F : Nat → Prop} {j q : Nat} (h : MInv w0 w wr k ts b c K S G F j)
    (hF : F b) (hG : ∀ j x, j < ts.length → G j x → F x ∧ x ≠ b) (hd : ∀ i j x, i < ts.length → j < ts.length → i ≠ j → G i x → G j x → False) (hj : j < ts.length) (hq : q = k + nodesS (ts.take j))
    (hO : OS w2 (markS (q + 1) ts[j].args) (S j) (G j)) (hB : But (G j) (wr.setCell ⟨b, j * 2, none⟩ (.int .i64 q)) w2) : MInv w0 w w2 k ts b c K S G F (j + 1) := by
  have hrow1 := h.row.setKind j q
  have hbut1 : But F w (wr.setCell ⟨b, j * 2, none⟩ (.int .i64 q)) := h.but.set hF _ _
  have st : ∀ i, i < ts.length → i ≠ j → Stays (G i) wr w2 := fun i hi hne => (setCell_stays wr b (j * 2) (.int .i64 q) (G i) (fun e => (hG i b hi e).2 rfl)).trans (hB.stays (fun x h1 h2 => hd i j x hi hj hne h2 h1))
  refine ⟨?_, fun i x hi hx => ?_, fun i h1 h2 => (h.rest i (by omega) h2).trans (st i h2 (by omega)), hbut1.trans (hB.mono (fun x hx => (hG j x hj hx).1))⟩
  · refine (hrow1.of_block (hB.kept b hrow1.lt (fun e => (hG j b hj e).2 rfl))).congr (fun i hi => ?_) (fun i _ => rfl)
    by_cases e : i = j
    · subst e
      simp [hq]
    · simp only [if_neg e]
      by_cases e2 : i < j
      · rw [if_pos e2, if_pos (by omega)]
      · rw [if_neg e2, if_neg (by omega)]
  · by_cases e : i = j
    · subst e
      rw [List.getElem?_eq_getElem hj] at hx
      obtain rfl := Option.some.inj hx
      rw [← hq]
      exact hO
    · exact (h.done i x (by omega) hx).stays (st i (List.getElem?_eq_some_iff.1 hx).1 e)
theorem MInv.all {w0 w wr : World} {k : Nat} {ts : List Ty} {b c : Nat} {K : Nat → Int} {S : Nat → Value} {G : Nat → Nat → Prop} {F : Nat → Prop} (h : MInv w0 w wr k ts b c K S G F ts.length)
    (hF : F b) (hG : ∀ j x, j < ts.length → G j x → F x ∧ x ≠ b) (hd : ∀ i j x, i < ts.length → j < ts.length → i ≠ j → G i x → G j x → False) (hm : c ≤ maxLen) : OS wr (markS k ts) (.slice (some ⟨b, 0, none⟩) ts.length c) F := by
  have hl := markS_length ts k
  have at_ : ∀ j x, (markS k ts)[j]? = some x → ∃ y : Ty, ts[j]? = some y ∧ x = y.mark (k + nodesS (ts.take j)) := fun j x hj => by
    rw [markS_at, Option.map_eq_some_iff] at hj
    obtain ⟨y, h1, h2⟩ := hj
    exact ⟨y, h1, h2.symm⟩
  have key := OS.row (w := wr) (ts := markS k ts) (b := b) (c := c) (F := F) (fun i => if i < ts.length then ((k + nodesS (ts.take i) : Nat) : Int) else K i) S G (by rw [hl]; exact h.row) hm hF
    (fun j x hj => by
      obtain ⟨y, h1, rfl⟩ := at_ j x hj
      rw [if_pos (List.getElem?_eq_some_iff.1 h1).1, mark_kind])
    (fun j x hj => by
      obtain ⟨y, h1, rfl⟩ := at_ j x hj
      rw [mark_args]
      exact h.done j y (List.getElem?_eq_some_iff.1 h1).1 h1)
    (by rw [hl]; exact hG) (by rw [hl]; exact hd)
  rw [hl] at key
  exact key

def Marked' (ts : List Ty) (v : Value) (F : Nat → Prop) (k : Nat) (w : World) (e : Ending) (w' : World) : Prop :=
  e = .returned (.int .i64 ((k + nodesS ts : Nat) : Int)) ∧ OS w' (markS k ts) v F ∧ But F w w'

set_option maxRecDepth 100000 in
set_option maxHeartbeats 1000000 in
theorem markS_any {w0 : World} {F : Nat → Prop} {ts : List Ty} {v : Value} (h : OS w0 ts v F) : ∀ (w : World) (k : Nat), Stays F w0 w → k + nodesS ts ≤ 1099511627776 →
    Calls Tryd.prog 77 #[v, .int .i64 k] w (Marked' ts v F k w) := by
  induction h with
  | none F =>
    intro w k hst hn
    go_enter Tryd.func77, Tryd.ntmps77
    go_wp2_with fail
    go_loopw [1, 5] (fun q i wr => q = .int .i64 k ∧ i = .int .i64 0 ∧ wr = w) (fun _ _ _ => 0)
    case atStart => exact ⟨rfl, rfl, rfl⟩
    case round =>
      obtain ⟨rfl, rfl, rfl⟩ := hrel
      go_wp2_with fail
      go_ret
      exact ⟨by simp [nodesS], .none F, But.refl F _⟩
  | @row ts b c F K S G hrow hm hF hk hr hG hd ih =>
    intro w k hst hn
    have hlen := nodesS_ge ts
    have HIH := Lib.hid ih
    have HFORM := Lib.hid (fun j x (hj : ts[j]? = some x) => (hr j x hj).form)
    have HG := Lib.hid hG
    have HD := Lib.hid hd
    have HM := Lib.hid hm
    have HF := Lib.hid hF
    have H0 := Lib.hid (⟨(hrow.of_block (hst.2 _ hF hrow.lt)).congr (fun i hi => by simp) (fun i _ => rfl), fun i x hi => by omega, fun i _ hi => ⟨hst.1, fun x hx hl => hst.2 x (hG i x hi hx).1 hl⟩, But.refl F w⟩ : MInv w0 w w k ts b c K S G F 0)
    clear ih hr hG hd hm hF hrow hk hst
    go_enter Tryd.func77, Tryd.ntmps77
    go_wp2_with fail
    go_loopw [1, 5] (fun q i wr => ∃ (j n : Nat), j ≤ ts.length ∧ i = .int .i64 j ∧ q = .int .i64 n ∧ n = k + nodesS (ts.take j) ∧ MInv w0 w wr k ts b c K S G F j) (fun _ i _ => ts.length - (intOf i).toNat)
    case atStart => exact ⟨0, k, Nat.zero_le _, rfl, rfl, by simp [nodesS], H0.out⟩
    case round =>
      obtain ⟨j, n, hj, rfl, rfl, hn2, hinv⟩ := hrel
      have HI := Lib.hid hinv
      have HN := Lib.hid hn2
      have hnb : n ≤ 1099511627776 := by have := nodesS_take_le ts j; omega
      clear hinv hn2
      by_cases hlj : j < ts.length
      · obtain ⟨p', c', hf⟩ := HFORM.out j _ (List.getElem?_eq_getElem hlj)
        have k0 := HI.out.row.kind hlj
        have k1 := HI.out.row.args hlj
        have kz := HI.out.row.frozen
        have hs1 := (HI.out.row.setKind j n).args hlj
        have hq := nodesS_at ts j hlj
        have hq2 := nodesS_take ts j hlj
        have hq3 := nodesS_take_le ts (j + 1)
        have hC := HIH.out j _ (List.getElem?_eq_getElem hlj) (wr.setCell ⟨b, j * 2, none⟩ (.int .i64 n)) (n + 1) ((HI.out.rest j (Nat.le_refl _) hlj).trans (setCell_stays _ _ _ _ _ (fun e => (HG.out j b hlj e).2 rfl))) (by have := HN.out; omega)
        have HQ2 := Lib.hid hq2
        have HFF := Lib.hid hf
        rw [hf] at hC hs1
        have HC := Lib.hid hC
        have i0 : (0 : Int) ≤ (j : Int) := Int.natCast_nonneg _
        have i1 : (j : Int) < (ts.length : Int) := by omega
        clear hC hf hq hq2 hq3 k1
        go_wp2_with fail
        refine HC.out.mono ?_
        rintro e w2 ⟨rfl, hO, hB⟩
        have HO := Lib.hid hO
        have HB := Lib.hid hB
        clear hO hB hs1 k0 kz
        go_wp2_with fail
        go_roundw
        case rel =>
          refine ⟨j + 1, n + 1 + nodesS ts[j].args, by omega, by go_num, rfl, by have := HQ2.out; have := HN.out; omega, HI.out.next HF.out HG.out HD.out hlj HN.out ?_ HB.out⟩
          rw [HFF.out]
          exact HO.out
        case measure => simp [intOf]; omega
      · obtain rfl : j = ts.length := by omega
        go_wp2_with fail
        go_ret
        have h1 := HN.out
        rw [List.take_length] at h1
        subst h1
        exact ⟨rfl, HI.out.all HF.out HG.out HD.out HM.out, HI.out.but⟩
set_option maxRecDepth 100000 in
set_option maxHeartbeats 1000000 in
theorem markT_any {F : Nat → Prop} {t : Ty} {v : Value} {w : World} (h : OT w t v F) (k : Nat) (hn : k + nodesS t.args ≤ 1099511627776) :
    Calls Tryd.prog 49 #[v, .int .i64 k] w (fun e w' => e = .returned (.int .i64 ((k + nodesS t.args : Nat) : Int)) ∧ OT w' (.mk t.kind (markS k t.args)) v F ∧ ∃ w1, Below w.heap.size w w1 ∧ But F w1 w') := by
  obtain ⟨s, rfl, h⟩ := h
  obtain ⟨p, c, rfl⟩ := h.form
  have hb := (Below.refl w.heap.size w).alloc (Nat.le_refl _) (Obj.cells #[.int .i64 t.kind, .slice p t.args.length c] 32)
  have HC := Lib.hid (markS_any h _ k (Stays.of_below hb) hn)
  have HB := Lib.hid hb
  clear hb
  go_enter Tryd.func49, Tryd.ntmps49
  go_wp2_with fail
  refine HC.out.mono ?_
  rintro e w1 ⟨rfl, hO, hB⟩
  have HO := Lib.hid hO
  have HBT := Lib.hid hB
  clear hO hB
  go_wp2_with fail
  go_ret
  exact ⟨rfl, ⟨_, rfl, HO.out⟩, _, HB.out, HBT.out⟩

set_option maxRecDepth 100000 in
set_option maxHeartbeats 1000000 in
theorem heldS_any {w0 : World} {C : Nat → Prop} {us : List Ty} {v : Value} (h : TS w0 C us v) : ∀ (w : World) (k : Nat) (ts : List Ty), us = markS k ts → Stays C w0 w → k + nodesS ts ≤ 1099511627776 →
    Calls Tryd.prog 79 #[v, .int .i64 k] w (IntRet (fun r => r = ((k + nodesS ts : Nat) : Int)) w) := by
  refine TS.ind (motive := fun us v => ∀ (w : World) (k : Nat) (ts : List Ty), us = markS k ts → Stays C w0 w → k + nodesS ts ≤ 1099511627776 →
    Calls Tryd.prog 79 #[v, .int .i64 k] w (IntRet (fun r => r = ((k + nodesS ts : Nat) : Int)) w)) ?_ h
  intro us p c hl H w k ts hu hst hn
  have hlu : us.length = ts.length := by rw [hu, markS_length]
  have hlen := nodesS_ge ts
  rw [hlu] at hl ⊢
  have HH := Lib.hid H
  have HST := Lib.hid hst
  have HU := Lib.hid (fun j (hj : j < ts.length) => show us[j]? = some (ts[j].mark (k + nodesS (ts.take j))) by rw [hu, markS_at, List.getElem?_eq_getElem hj]; rfl)
  clear H hst hu
  go_enter Tryd.func79, Tryd.ntmps79
  go_wp2_with fail
  go_loopw [1, 5] (fun q i wr => ∃ (j n : Nat), j ≤ ts.length ∧ i = .int .i64 j ∧ q = .int .i64 n ∧ n = k + nodesS (ts.take j) ∧ Below w.heap.size w wr) (fun _ i _ => ts.length - (intOf i).toNat)
  case atStart => exact ⟨0, k, Nat.zero_le _, rfl, rfl, by simp [nodesS], Below.refl _ _⟩
  case round =>
    obtain ⟨j, n, hj, rfl, rfl, hn2, hbr⟩ := hrel
    have HN := Lib.hid hn2
    have HB := Lib.hid hbr
    have hnb : n ≤ 1099511627776 := by have := nodesS_take_le ts j; omega
    clear hn2 hbr
    by_cases hlj : j < ts.length
    · obtain ⟨b, o, p', c', rfl, hcs, hT, hI⟩ := HH.out j _ (HU.out j hlj)
      obtain ⟨f1, f2⟩ := hcs wr (HST.out.trans (Stays.of_below HB.out))
      have hq2 := nodesS_take ts j hlj
      have hq3 := nodesS_take_le ts (j + 1)
      have hC := hI wr (n + 1) ts[j].args (by rw [mark_args, HN.out]) (HST.out.trans (Stays.of_below HB.out)) (by have := HN.out; omega)
      rw [mark_kind, ← HN.out] at f1
      have HC := Lib.hid hC
      have HQ2 := Lib.hid hq2
      have i0 : (0 : Int) ≤ (j : Int) := Int.natCast_nonneg _
      have i1 : (j : Int) < (ts.length : Int) := by omega
      clear hcs hT hI hC hq2
      go_wp2_with fail
      refine HC.out.mono ?_
      rintro e w1 ⟨r, rfl, rfl, hb1⟩
      have HB1 := Lib.hid (HB.out.trans (hb1.mono HB.out.size))
      have hnn : ¬ (((n + 1 + nodesS ts[j].args : Nat) : Int) < 0) := by omega
      clear hb1 f1 f2
      go_wp2_with fail
      go_roundw
      case rel => exact ⟨j + 1, n + 1 + nodesS ts[j].args, by omega, by go_num, rfl, by have := HQ2.out; have := HN.out; omega, HB1.out⟩
      case measure => simp [intOf]; omega
    · obtain rfl : j = ts.length := by omega
      have h1 := HN.out
      rw [List.take_length] at h1
      have H1 := Lib.hid h1
      clear h1
      go_wp2_with fail
      go_ret
      exact ⟨_, by rw [H1.out], rfl, HB.out⟩
set_option maxRecDepth 100000 in
set_option maxHeartbeats 1000000 in
theorem heldT_any {C : Nat → Prop} {t : Ty} {v : Value} {w : World} {k : Nat} {ts : List Ty} (h : TT w C t v) (ht : t.args = markS k ts) (hn : k + nodesS ts ≤ 1099511627776) :
    Calls Tryd.prog 51 #[v, .int .i64 k] w (IntRet (fun r => r = ((k + nodesS ts : Nat) : Int)) w) := by
  obtain ⟨s, rfl, h⟩ := h
  obtain ⟨p, c, rfl⟩ := h.form
  have hb := (Below.refl w.heap.size w).alloc (Nat.le_refl _) (Obj.cells #[.int .i64 t.kind, .slice p t.args.length c] 32)
  have HC := Lib.hid (heldS_any h _ k ts ht (Stays.of_below hb) hn)
  have HB := Lib.hid hb
  clear hb ht
  go_enter Tryd.func51, Tryd.ntmps51
  go_wp2_with fail
  refine HC.out.mono ?_
  rintro e w1 ⟨r, hr, rfl, hb1⟩
  have HB1 := Lib.hid (HB.out.trans (hb1.mono HB.out.size))
  have hnn : ¬ (r < 0) := by rw [hr]; omega
  have HR := Lib.hid hr
  clear hb1 hr
  go_wp2_with fail
  go_ret
  exact ⟨_, HR.out, rfl, HB1.out⟩
end Go.Proofs.YtfeijijeohfpgaaDoor
namespace Go.Proofs.YtfeijijeohfpgaaDoor
open Go
def dec (m : Nat) : List UInt8 := if m = 0 then [] else Lib.decDigits m

theorem dec_zero : dec 0 = [] := rfl
theorem dec_pos {m : Nat} (h : 1 ≤ m) : dec m = Lib.decDigits m := by unfold dec; rw [if_neg (by omega)]
theorem dec_step {m : Nat} (h : 1 ≤ m) : dec (m / 10) ++ [UInt8.ofNat (48 + m % 10)] = dec m := by
  rw [dec_pos h, Lib.decDigits]
  by_cases hm : m < 10
  · rw [dif_pos hm, show m / 10 = 0 by omega, dec_zero, Nat.mod_eq_of_lt hm]; rfl
  · rw [dif_neg hm, dec_pos (by omega)]
theorem dec_put {m : Nat} (h : 1 ≤ m) {l r : List UInt8} (hl : dec m ++ l = r) : dec (m / 10) ++ (UInt8.ofNat (48 + m % 10) :: l) = r := by
  rw [← hl, ← dec_step h, List.append_assoc]; rfl

theorem nDigits_le : ∀ (k u : Nat), 1 ≤ k → u < 10 ^ k → Lib.nDigits u ≤ k
  | 0, _, h, _ => by omega
  | k + 1, u, _, h => by
    by_cases hu : u < 10
    · rw [Lib.nDigits_small hu]; omega
    · rw [Lib.nDigits_big hu]
      have h1 : 1 ≤ k := by
        cases k with
        | zero => simp at h; omega
        | succ k => omega
      have := nDigits_le k (u / 10) h1 (by rw [Nat.pow_succ] at h; omega)
      omega
theorem dec_length_le {u : Nat} (h : u ≤ 9223372036854775808) : (Lib.decDigits u).length ≤ 19 := by
  rw [Lib.decDigits_length]; exact nDigits_le 19 u (by decide) (by simp only [Nat.reducePow]; omega)
end Go.Proofs.YtfeijijeohfpgaaDoor
namespace Go.Proofs.YtfeijijeohfpgaaDoor
open Go Go.RowKit

theorem rel_put (m : Nat) (h : ¬ m = 0) {l r : List UInt8} (hl : dec m ++ l = r) :
    Value.string ((⟨#[48 + UInt8.ofNat (m % 10)]⟩ : ByteArray) ++ ⟨l.toArray⟩) = Value.string ⟨(UInt8.ofNat (48 + m % 10) :: l).toArray⟩ ∧ dec (m / 10) ++ (UInt8.ofNat (48 + m % 10) :: l) = r := by
  refine ⟨?_, dec_put (by omega) hl⟩
  rw [str_cons, UInt8.ofNat_add]; rfl

end Go.Proofs.YtfeijijeohfpgaaDoor
namespace Go.Proofs.YtfeijijeohfpgaaDoor
open Go Go.RowKit
def bs (xs : List ByteArray) : List (List UInt8) := xs.map (·.data.toList)
def SS (w : World) (v : Value) (xs : List ByteArray) : Prop :=
  (xs = [] ∧ ∃ a c, v = .slice a 0 c) ∨
  (1 ≤ xs.length ∧ ∃ b o c, v = .slice (some ⟨b, o, none⟩) xs.length c ∧ xs.length ≤ c ∧ b < w.heap.size ∧ ∀ j x, xs[j]? = some x → w.cell? ⟨b, o + j, none⟩ = some (.string x))
theorem ownsRow_below {w w' : World} {base : Nat} {e : TypeId} {size n : Nat} {v : Value} {xs : List Value} (h : w.ownsRow base e size v n xs) (hb : Below w.heap.size w w') : w'.ownsRow base e size v n xs := by
  refine ⟨h.1, ?_⟩
  rcases h.2 with h0 | ⟨g, cap, cur, rfl, hg, hblk, h1, h2, h3, h4⟩
  · exact Or.inl h0
  · refine Or.inr ⟨g, cap, cur, rfl, hg, ?_, h1, h2, h3, h4⟩
    have hlt : g < w.heap.size := by
      rcases Nat.lt_or_ge g w.heap.size with h' | h'
      · exact h'
      · rw [Array.getElem?_eq_none h'] at hblk; cases hblk
    rw [hb.block g hlt]; exact hblk

theorem ownsRow_mono {w : World} {base base' : Nat} {e : TypeId} {size n : Nat} {v : Value} {xs : List Value} (h : w.ownsRow base e size v n xs) (hb : base' ≤ base) : w.ownsRow base' e size v n xs := by
  refine ⟨h.1, ?_⟩
  rcases h.2 with h0 | ⟨g, cap, cur, rfl, hg, h'⟩
  · exact Or.inl h0
  · exact Or.inr ⟨g, cap, cur, rfl, Nat.le_trans hb hg, h'⟩
theorem SS_of_row {w : World} {base : Nat} {e : TypeId} {n : Nat} {v : Value} {xs : List ByteArray} (h : w.ownsRow base e 1 v n (xs.map Value.string)) : SS w v xs := by
  have hn : xs.length = n := by simpa using h.1
  rcases h.2 with ⟨rfl, h0⟩ | ⟨g, cap, cur, rfl, hg, hblk, h1, h2, h3, h4⟩
  · exact Or.inl ⟨List.eq_nil_of_length_eq_zero (by omega), _, _, rfl⟩
  · by_cases hz : n = 0
    · subst hz
      exact Or.inl ⟨List.eq_nil_of_length_eq_zero hn, _, _, rfl⟩
    · have hlt : g < w.heap.size := by
        rcases Nat.lt_or_ge g w.heap.size with h' | h'
        · exact h'
        · rw [Array.getElem?_eq_none h'] at hblk; cases hblk
      refine Or.inr ⟨by omega, g, 0, cap, by rw [hn], by omega, hlt, fun j x hj => ?_⟩
      have hj1 : j < n := by
        have := (List.getElem?_eq_some_iff.1 hj).1
        omega
      rw [Nat.zero_add, World.ownsRow.cellAt (xs := xs.map Value.string) (cap := cap) (n := n) h j (by omega), List.getElem?_map, hj]
      rfl
end Go.Proofs.YtfeijijeohfpgaaDoor
namespace Go.Proofs.YtfeijijeohfpgaaDoor
open Go Go.RowKit
def mk (k : Nat) : ByteArray := ⟨(109 :: Lib.decDigits k).toArray⟩
def marks (k n : Nat) : List ByteArray := (List.range n).map fun j => mk (k + j)
theorem ret_mark {a b : List UInt8} (h : a = b) : Ending.returned (.string ((⟨#[109]⟩ : ByteArray) ++ ⟨a.toArray⟩)) = Ending.returned (.string ⟨(109 :: b).toArray⟩) := by rw [h, str_cons]

set_option maxRecDepth 100000 in
set_option maxHeartbeats 400000 in
theorem markText_any (N : Nat) (h1 : 1 ≤ N) (h2 : N ≤ 9223372036854775807) (w : World) :
    Calls Tryd.prog 78 #[.int .i64 N] w fun e w' => e = .returned (.string (mk N)) ∧ Below w.heap.size w w' := by
  have t1 : decide ((N : Int) ≤ 0) = false := by simp; omega
  go_enter Tryd.func78, Tryd.ntmps78
  go_wp2
  go_loopw [0, 3] (fun n out wr => ∃ (m : Nat) (l : List UInt8), m ≤ N ∧ n = .int .i64 m ∧ out = .string ⟨l.toArray⟩ ∧ dec m ++ l = Lib.decDigits N ∧ Below w.heap.size w wr) (fun n _ _ => (intOf n).toNat)
  case atStart => exact ⟨N, [], Nat.le_refl _, rfl, rfl, by rw [dec_pos h1, List.append_nil], Below.refl _ _⟩
  case round =>
    obtain ⟨m, l, hm, rfl, rfl, hl, hb⟩ := hrel
    have hll : l.length ≤ 19 := by
      have e := congrArg List.length hl
      rw [List.length_append] at e
      have := dec_length_le (u := N) (by omega)
      omega
    have HL := Lib.hid hl
    clear hl
    by_cases hz : m = 0
    · subst hz
      go_wp2
      go_ret
      have e := HL.out
      rw [dec_zero, List.nil_append] at e
      exact ⟨ret_mark e, hb⟩
    · have t3 : decide (0 < (m : Int)) = true := by simp; omega
      have kc := run_string_byte (P := Tryd.prog) wr 118 9 5 (48 + (m : Int) % 10) (by omega) (by omega) Tryd.underlying118 Tryd.underlying5 Tryd.underlying9
      go_wp2
      go_roundw
      case rel => exact ⟨m / 10, _, by omega, by go_num, (rel_put m hz HL.out).1, (rel_put m hz HL.out).2, hb.alloc hb.size _⟩
      case measure => simp [intOf]; omega

end Go.Proofs.YtfeijijeohfpgaaDoor
namespace Go.Proofs.YtfeijijeohfpgaaDoor
open Go Go.RowKit
def cellD (V : Nat → Value) (es : List D) (i : Nat) : Value := match es[i]? with
  | some (.cell u) => u
  | _ => V i
structure MInvD (w0 w wr : World) (T : TypeId) (N b L : Nat) (V : Nat → Value) (G : Nat → Nat → Prop) (F : Nat → Prop) (es : List D) (m : Nat) : Prop where
  blk : ∃ cur : Array Value, wr.heap[b]? = some (.cells cur T (0, 0)) ∧ cur.size = L ∧ ∀ i, i < N → cur[i]? = some (if i < m then cellD V es i else V i)
  done : ∀ i d, i < m → es[i]? = some d → DO wr d (cellD V es i) (G i)
  rest : ∀ i, m ≤ i → i < N → Stays (G i) w0 wr
  but : But F w wr
section
variable {w0 w wr w2 : World} {T : TypeId} {N b L : Nat} {V : Nat → Value} {G : Nat → Nat → Prop} {F : Nat → Prop} {es : List D} {m : Nat}
theorem MInvD.cell (h : MInvD w0 w wr T N b L V G F es m) {i : Nat} (hi : i < N) : wr.cell? ⟨b, i, none⟩ = some (if i < m then cellD V es i else V i) := by
  obtain ⟨cur, hb, _, hc⟩ := h.blk
  rw [cell_of_blk hb]
  exact hc i hi
theorem MInvD.frozen (h : MInvD w0 w wr T N b L V G F es m) (i : Nat) : wr.frozen? ⟨b, i, none⟩ = false := by
  obtain ⟨cur, hb, _, _⟩ := h.blk
  exact unfrozen_of_blk hb i
theorem MInvD.below (h : MInvD w0 w wr T N b L V G F es m) (hb : Below wr.heap.size wr w2) : MInvD w0 w w2 T N b L V G F es m := by
  obtain ⟨cur, h1, h2, h3⟩ := h.blk
  exact ⟨⟨cur, (hb.block b (blk_lt h1)).trans h1, h2, h3⟩, fun i d hi hd => (h.done i d hi hd).keep hb, fun i h1 h2 => (h.rest i h1 h2).trans (.of_below hb),
    ⟨Nat.le_trans h.but.size hb.size, fun x hx hn => (hb.block x (Nat.lt_of_lt_of_le hx h.but.size)).trans (h.but.kept x hx hn), fun base h1 h2 => (h.but.below base h1 h2).trans (hb.mono (Nat.le_trans h1 h.but.size))⟩⟩
theorem MInvD.set (h : MInvD w0 w wr T N b L V G F es m) (hF : F b) (hG : ∀ i z, i < N → G i z → F z ∧ z ≠ b) (hm : m < N) (hL : N ≤ L) {u : Value} (he : es[m]? = some (.cell u)) : MInvD w0 w (wr.setCell ⟨b, m, none⟩ u) T N b L V G F es (m + 1) := by
  obtain ⟨cur, h1, h2, h3⟩ := h.blk
  have st : ∀ i, i < N → Stays (G i) wr (wr.setCell ⟨b, m, none⟩ u) := fun i hi => setCell_stays wr b m u (G i) (fun e => (hG i b hi e).2 rfl)
  have hu : cellD V es m = u := by unfold cellD; rw [he]
  refine ⟨⟨cur.setIfInBounds m u, Go.Joins.block_setCell h1 _, by simpa using h2, fun i hi => ?_⟩, fun i d hi hd => ?_, fun i a1 a2 => (h.rest i (by omega) a2).trans (st i a2), h.but.set hF _ _⟩
  · rw [Array.getElem?_setIfInBounds]
    by_cases e : m = i
    · subst e
      rw [if_pos rfl, if_pos (by omega), if_pos (by omega), hu]
    · rw [if_neg e, h3 i hi]
      by_cases e2 : i < m
      · rw [if_pos e2, if_pos (by omega)]
      · rw [if_neg e2, if_neg (by omega)]
  · by_cases e : i = m
    · subst e
      rw [he] at hd
      obtain rfl := Option.some.inj hd
      rw [hu]
      exact .cell _ _
    · exact (h.done i d (by omega) hd).stays (st i (by omega))
theorem MInvD.call (h : MInvD w0 w wr T N b L V G F es m) (hG : ∀ i z, i < N → G i z → F z ∧ z ≠ b) (hd : ∀ i j z, i < N → j < N → i ≠ j → G i z → G j z → False) (hm : m < N) {d : D} (he : es[m]? = some d) (hv : cellD V es m = V m)
    (hO : DO w2 d (V m) (G m)) (hB : But (G m) wr w2) : MInvD w0 w w2 T N b L V G F es (m + 1) := by
  obtain ⟨cur, h1, h2, h3⟩ := h.blk
  have st : ∀ i, i < N → i ≠ m → Stays (G i) wr w2 := fun i hi hne => hB.stays (fun x h1 h2 => hd m i x hm hi (fun e => hne e.symm) h1 h2)
  refine ⟨⟨cur, (hB.kept b (blk_lt h1) (fun e => (hG m b hm e).2 rfl)).trans h1, h2, fun i hi => ?_⟩, fun i x hi hx => ?_, fun i a1 a2 => (h.rest i (by omega) a2).trans (st i a2 (by omega)), h.but.trans (hB.mono (fun x hx => (hG m x hm hx).1))⟩
  · rw [h3 i hi]
    by_cases e : i = m
    · subst e
      rw [if_neg (by omega), if_pos (by omega), hv]
    · by_cases e2 : i < m
      · rw [if_pos e2, if_pos (by omega)]
      · rw [if_neg e2, if_neg (by omega)]
  · by_cases e : i = m
    · subst e
      rw [he] at hx
      obtain rfl := Option.some.inj hx
      rw [hv]
      exact hO
    · exact (h.done i x (by omega) hx).stays (st i (by omega) e)
theorem MInvD.all {k n c : Nat} (h : MInvD w0 w wr T (n * k) b (c * k) V G F es (n * k)) (hF : F b) (hl : es.length = n * k) (hn : n ≤ c) (hm : c ≤ maxLen) (hG : ∀ i z, i < n * k → G i z → F z ∧ z ≠ b)
    (hd : ∀ i j z, i < n * k → j < n * k → i ≠ j → G i z → G j z → False) : DO wr (.rows T k n es) (.slice (some ⟨b, 0, none⟩) n c) F := by
  obtain ⟨cur, h1, h2, h3⟩ := h.blk
  exact .rows cur (cellD V es) G h1 h2 hn hm hl hF (fun i hi => by rw [h3 i hi, if_pos hi]) (fun i d hi => h.done i d (ds_lt hi hl) hi) hG hd
end

theorem cellD_slice {V : Nat → Value} {es : List D} {i : Nat} {T : TypeId} {k n : Nat} {ds : List D} (h : es[i]? = some (.rows T k n ds)) : cellD V es i = V i := by
  unfold cellD
  rw [h]
theorem But.of_below {F : Nat → Prop} {w w' : World} (h : Below w.heap.size w w') : But F w w' :=
  ⟨h.size, fun x hx _ => h.block x hx, fun _ hb _ => h.mono hb⟩
theorem keep_bothM {w W w1 : World} {p : Addr} {v : Value} (hb1 : Below W.heap.size W w1) (h : W.cell? p = some v ∧ Below w.heap.size w W) : w1.cell? p = some v ∧ Below w.heap.size w w1 :=
  ⟨(hb1.cell (World.block_lt_of_cell? W p h.1)).trans h.1, h.2.trans (hb1.mono h.2.size)⟩
theorem markD_any {w0 : World} {F : Nat → Prop} {ts : List Ty} {v : Value} (h : DO w0 (tyD ts) v F) (w : World) (k : Nat) (hs : Stays F w0 w) (hn : k + nodesS ts ≤ 1099511627776) :
    Calls Tryd.prog 77 #[v, .int .i64 k] w fun e w' => e = .returned (.int .i64 ((k + nodesS ts : Nat) : Int)) ∧ DO w' (tyD (markS k ts)) v F ∧ But F w w' :=
  (markS_any (DO.os _ (Nat.le_refl _) h) w k hs hn).mono fun _ _ ⟨h1, h2, h3⟩ => ⟨h1, h2.dO, h3⟩
end Go.Proofs.YtfeijijeohfpgaaDoor
namespace Go.Proofs.YtfeijijeohfpgaaDoor
open Go Go.RowKit

mutual
def Tm.cnt : Tm → Nat
  | .mk _ _ _ _ t r ts => 6 + nodesS t.args + nodesS r.args + cntM ts
def cntM : List Tm → Nat
  | [] => 0
  | t :: ts => t.cnt + cntM ts
end
theorem Tm.cnt_eq (t : Tm) : t.cnt = 6 + nodesS t.ty.args + nodesS t.res.args + cntM t.args := by cases t; simp [Tm.cnt, Tm.ty, Tm.res, Tm.args]
theorem cntM_append (a b : List Tm) : cntM (a ++ b) = cntM a + cntM b := by
  induction a with
  | nil => simp [cntM]
  | cons x a ih => simp only [List.cons_append, cntM, ih]; omega
theorem cntM_take (ts : List Tm) (k : Nat) (h : k < ts.length) : cntM (ts.take (k + 1)) = cntM (ts.take k) + ts[k].cnt := by
  rw [tm_take_next h, cntM_append]; simp [cntM]
theorem cntM_take_le (ts : List Tm) (k : Nat) : cntM (ts.take k) ≤ cntM ts := by
  have h := cntM_append (ts.take k) (ts.drop k)
  rw [List.take_append_drop] at h
  omega
theorem cntM_ge (ts : List Tm) : ts.length ≤ cntM ts := by
  induction ts with
  | nil => simp
  | cons a ts ih => simp only [List.length_cons, cntM, Tm.cnt_eq]; omega
mutual
theorem cntM_wt : ∀ ts : List Tm, cntM ts ≤ 6 * wtS ts
  | [] => by simp [cntM]
  | t :: ts => by
    have h1 := Tm.cnt_wt t
    have h2 := cntM_wt ts
    simp only [cntM, wtS]
    omega
theorem Tm.cnt_wt : ∀ t : Tm, t.cnt ≤ 6 + 6 * t.wt
  | .mk k a b n t r ts => by
    have := cntM_wt ts
    simp only [Tm.cnt, Tm.wt]
    omega
end
mutual
def Tm.mark : Nat → Tm → Tm
  | k, .mk _ _ _ _ t r ts => .mk (k : Nat) (Go.Proofs.YtfeijijeohfpgaaDoor.mk (k + 1)) (Go.Proofs.YtfeijijeohfpgaaDoor.mk (k + 2)) ((k + 3 : Nat) : Int) (.mk ((k + 4 : Nat) : Int) (markS (k + 5) t.args)) (.mk ((k + 5 + nodesS t.args : Nat) : Int) (markS (k + 6 + nodesS t.args) r.args)) (markM (k + 6 + nodesS t.args + nodesS r.args) ts)
def markM : Nat → List Tm → List Tm
  | _, [] => []
  | k, t :: ts => t.mark k :: markM (k + t.cnt) ts
end
theorem tm_mark_eq (k : Nat) (t : Tm) : t.mark k = .mk (k : Nat) (mk (k + 1)) (mk (k + 2)) ((k + 3 : Nat) : Int) (.mk ((k + 4 : Nat) : Int) (markS (k + 5) t.ty.args)) (.mk ((k + 5 + nodesS t.ty.args : Nat) : Int) (markS (k + 6 + nodesS t.ty.args) t.res.args)) (markM (k + 6 + nodesS t.ty.args + nodesS t.res.args) t.args) := by cases t; rfl
theorem markM_at (ts : List Tm) : ∀ (k j : Nat), (markM k ts)[j]? = (ts[j]?).map (fun x => x.mark (k + cntM (ts.take j))) := by
  induction ts with
  | nil => intro k j; simp [markM]
  | cons t ts ih =>
    intro k j
    cases j with
    | zero => simp [markM, cntM]
    | succ j => simp only [markM, List.getElem?_cons_succ, ih, List.take_succ_cons, cntM, Nat.add_assoc]
theorem markM_length (ts : List Tm) : ∀ k : Nat, (markM k ts).length = ts.length := by
  induction ts with
  | nil => intro k; rfl
  | cons t ts ih => intro k; simp [markM, ih]
theorem markM_get (ts : List Tm) (k j : Nat) (h : j < ts.length) : (markM k ts)[j]'(by rw [markM_length]; exact h) = ts[j].mark (k + cntM (ts.take j)) := by
  have := markM_at ts k j
  rw [List.getElem?_eq_getElem h, List.getElem?_eq_getElem (by rw [markM_length]; exact h)] at this
  simpa using this
theorem markM_cell (ts : List Tm) (k j i : Nat) (h : j < ts.length) (hi : i < 9) : (flatTm (markM k ts))[j * 9 + i]? = ((ts[j].mark (k + cntM (ts.take j))).ds)[i]? := by
  rw [flatTm_at _ j i (by rw [markM_length]; exact h) hi, markM_get ts k j h]

def MarkedM (ts : List Tm) (v : Value) (F : Nat → Prop) (k : Nat) (w : World) (e : Ending) (w' : World) : Prop :=
  e = .returned (.int .i64 ((k + cntM ts : Nat) : Int)) ∧ DO w' (tmD (markM k ts)) v F ∧ But F w w'
end Go.Proofs.YtfeijijeohfpgaaDoor
namespace Go.Proofs.YtfeijijeohfpgaaDoor
open Go Go.RowKit
theorem marked9 (ts : List Tm) (k j n : Nat) (h : j < ts.length) (hn : n = k + cntM (ts.take j)) :
    (flatTm (markM k ts))[j * 9]? = some (.cell (.int .i64 (n : Int))) ∧ (flatTm (markM k ts))[j * 9 + 1]? = some (.cell (.string (mk (n + 1)))) ∧ (flatTm (markM k ts))[j * 9 + 2]? = some (.cell (.string (mk (n + 2)))) ∧
    (flatTm (markM k ts))[j * 9 + 3]? = some (.cell (.int .i64 ((n : Int) + 1 + 1 + 1))) ∧ (flatTm (markM k ts))[j * 9 + 4]? = some (.cell (.int .i64 ((n : Int) + 1 + 1 + 1 + 1))) ∧ (flatTm (markM k ts))[j * 9 + 5]? = some (tyD (markS (n + 5) ts[j].ty.args)) ∧
    (flatTm (markM k ts))[j * 9 + 6]? = some (.cell (.int .i64 ((n + 5 + nodesS ts[j].ty.args : Nat) : Int))) ∧ (flatTm (markM k ts))[j * 9 + 7]? = some (tyD (markS (n + 6 + nodesS ts[j].ty.args) ts[j].res.args)) ∧
    (flatTm (markM k ts))[j * 9 + 8]? = some (tmD (markM (n + 6 + nodesS ts[j].ty.args + nodesS ts[j].res.args) ts[j].args)) := by
  have key := fun i (hi : i < 9) => markM_cell ts k j i h hi
  rw [← hn, Tm.ds_eq, tm_mark_eq] at key
  rw [show ((n : Int) + 1 + 1 + 1) = ((n + 3 : Nat) : Int) by omega, show (((n + 3 : Nat) : Int) + 1) = ((n + 4 : Nat) : Int) by omega]
  refine ⟨key 0 (by omega), key 1 (by omega), key 2 (by omega), key 3 (by omega), key 4 (by omega), key 5 (by omega), key 6 (by omega), key 7 (by omega), key 8 (by omega)⟩
set_option maxRecDepth 100000 in
set_option maxHeartbeats 8000000 in
theorem markMS_row {w0 : World} {F : Nat → Prop} {ts : List Tm} {b c : Nat} {V : Nat → Value} {G : Nat → Nat → Prop} (cur : Array Value) (hblk : w0.heap[b]? = some (.cells cur 35 (0, 0))) (hsz : cur.size = c * 9) (hnc : ts.length ≤ c) (hm : c ≤ maxLen)
    (hF : F b) (hv : ∀ i, i < ts.length * 9 → cur[i]? = some (V i)) (hr : ∀ i d, (flatTm ts)[i]? = some d → DO w0 d (V i) (G i)) (hG : ∀ i z, i < ts.length * 9 → G i z → F z ∧ z ≠ b)
    (hd : ∀ i j z, i < ts.length * 9 → j < ts.length * 9 → i ≠ j → G i z → G j z → False)
    (IH : ∀ (j : Nat) (hj : j < ts.length) (W : World) (K : Nat), Stays (G (j * 9 + 8)) w0 W → 1 ≤ K → K + cntM ts[j].args ≤ 1099511627776 → Calls Tryd.prog 50 #[V (j * 9 + 8), .int .i64 K] W (MarkedM ts[j].args (V (j * 9 + 8)) (G (j * 9 + 8)) K W))
    (w : World) (k : Nat) (hst : Stays F w0 w) (hk : 1 ≤ k) (hn : k + cntM ts ≤ 1099511627776) :
    Calls Tryd.prog 50 #[.slice (some ⟨b, 0, none⟩) ts.length c, .int .i64 k] w (MarkedM ts (.slice (some ⟨b, 0, none⟩) ts.length c) F k w) := by
  have hlen := cntM_ge ts
  have hTY : ∀ (j : Nat) (hj : j < ts.length), DO w0 (tyD ts[j].ty.args) (V (j * 9 + 5)) (G (j * 9 + 5)) := fun j hj => hr _ _ (by rw [flatTm_at ts j 5 hj (by omega), Tm.ds_eq]; rfl)
  have hRE : ∀ (j : Nat) (hj : j < ts.length), DO w0 (tyD ts[j].res.args) (V (j * 9 + 7)) (G (j * 9 + 7)) := fun j hj => hr _ _ (by rw [flatTm_at ts j 7 hj (by omega), Tm.ds_eq]; rfl)
  have hAR : ∀ (j : Nat) (hj : j < ts.length), DO w0 (tmD ts[j].args) (V (j * 9 + 8)) (G (j * 9 + 8)) := fun j hj => hr _ _ (by rw [flatTm_at ts j 8 hj (by omega), Tm.ds_eq]; rfl)
  have HTY := Lib.hid hTY
  have HRE := Lib.hid hRE
  have HAR := Lib.hid hAR
  have HIH := Lib.hid IH
  have HG := Lib.hid hG
  have HD := Lib.hid hd
  have HM := Lib.hid hm
  have HNC := Lib.hid hnc
  have HF := Lib.hid hF
  have HL := Lib.hid (show (flatTm (markM k ts)).length = ts.length * 9 by rw [flatTm_len, markM_length])
  have HCL := Lib.hid (show ts.length * 9 ≤ c * 9 by omega)
  have H0 : Hid (MInvD w0 w w 35 (ts.length * 9) b (c * 9) V G F (flatTm (markM k ts)) 0) := Lib.hid ⟨⟨cur, (hst.2 b hF (blk_lt hblk)).trans hblk, hsz, fun i hi => by rw [if_neg (by omega)]; exact hv i hi⟩, fun i d hi => by omega, fun i _ hi => ⟨hst.1, fun x hx hl => hst.2 x (hG i x hi hx).1 hl⟩, But.refl F w⟩
  clear IH hr hG hd hm hF hv hblk hsz hnc hst hTY hRE hAR
  go_enter Tryd.func50, Tryd.ntmps50
  go_wp2_with fail
  go_loopw [1, 5] (fun q i wr => ∃ (j n : Nat), j ≤ ts.length ∧ i = .int .i64 j ∧ q = .int .i64 n ∧ n = k + cntM (ts.take j) ∧ MInvD w0 w wr 35 (ts.length * 9) b (c * 9) V G F (flatTm (markM k ts)) (j * 9)) (fun _ i _ => ts.length - (intOf i).toNat)
  case atStart => exact ⟨0, k, Nat.zero_le _, rfl, rfl, by simp [cntM], by rw [Nat.zero_mul]; exact H0.out⟩
  case round =>
    obtain ⟨j, n, hj, rfl, rfl, hn2, hinv⟩ := hrel
    have HI := Lib.hid hinv
    have HN := Lib.hid hn2
    have hnb : n ≤ 1099511627776 := by have := cntM_take_le ts j; omega
    clear hinv hn2
    by_cases hlj : j < ts.length
    · have hj9 : j * 9 + 9 ≤ ts.length * 9 := by omega
      have HJ9 := Lib.hid hj9
      obtain ⟨e0, e1, e2, e3, e4, e5, e6, e7, e8⟩ := marked9 ts k j n hlj HN.out
      have hc2 := cntM_take ts j hlj
      have hc3 := cntM_take_le ts (j + 1)
      have hcq := ts[j].cnt_eq
      have HC2 := Lib.hid hc2
      have HCQ := Lib.hid hcq
      have hbnd : n + 6 + nodesS ts[j].ty.args + nodesS ts[j].res.args + cntM ts[j].args ≤ 1099511627776 := by have := HN.out; omega
      clear hc2 hc3 hcq
      obtain ⟨p5, c5, f5⟩ := (HTY.out j hlj).form
      obtain ⟨p7, c7, f7⟩ := (HRE.out j hlj).form
      obtain ⟨p8, c8, f8⟩ := (HAR.out j hlj).form
      have F5 := Lib.hid f5
      have F7 := Lib.hid f7
      have F8 := Lib.hid f8
      have E0 := Lib.hid e0
      have E1 := Lib.hid e1
      have E2 := Lib.hid e2
      have E3 := Lib.hid e3
      have E4 := Lib.hid e4
      have E5 := Lib.hid e5
      have E6 := Lib.hid e6
      have E7 := Lib.hid e7
      have E8 := Lib.hid e8
      clear f5 f7 f8 e0 e1 e2 e3 e4 e5 e6 e7 e8
      have i0 : (0 : Int) ≤ (j : Int) := Int.natCast_nonneg _
      have i1 : (j : Int) < (ts.length : Int) := by omega
      have c0 := HI.out.cell (i := j * 9) (by omega)
      have kz := HI.out.frozen
      have HI1 := Lib.hid (HI.out.set HF.out HG.out (by omega) HCL.out E0.out)
      have HC1 := Lib.hid (markText_any (n + 1) (by omega) (by omega) (wr.setCell ⟨b, j * 9, none⟩ (.int .i64 (n : Int))))
      go_wp2_with fail
      refine HC1.out.mono ?_
      rintro e w1 ⟨rfl, hb1⟩
      have HI1b := Lib.hid (HI1.out.below hb1)
      clear c0 kz hb1
      have c1 := HI1b.out.cell (i := j * 9 + 1) (by omega)
      have kz := HI1b.out.frozen
      have HI2 := Lib.hid (HI1b.out.set HF.out HG.out (by omega) HCL.out E1.out)
      have HC2b := Lib.hid (markText_any (n + 2) (by omega) (by omega) (w1.setCell ⟨b, j * 9 + 1, none⟩ (.string (mk (n + 1)))))
      go_wp2_with fail
      refine HC2b.out.mono ?_
      rintro e w2 ⟨rfl, hb2⟩
      have HI2b := Lib.hid (HI2.out.below hb2)
      clear c1 kz hb2
      have hI3 : MInvD w0 w (w2.setCell ⟨b, j * 9 + 2, none⟩ (.string (mk (n + 2)))) 35 (ts.length * 9) b (c * 9) V G F (flatTm (markM k ts)) (j * 9 + 3) := HI2b.out.set HF.out HG.out (by omega) HCL.out E2.out
      have hI4 : MInvD w0 w ((w2.setCell ⟨b, j * 9 + 2, none⟩ (.string (mk (n + 2)))).setCell ⟨b, j * 9 + 3, none⟩ (.int .i64 ((n : Int) + 1 + 1 + 1))) 35 (ts.length * 9) b (c * 9) V G F (flatTm (markM k ts)) (j * 9 + 4) := hI3.set HF.out HG.out (by omega) HCL.out E3.out
      have hI5 : MInvD w0 w (((w2.setCell ⟨b, j * 9 + 2, none⟩ (.string (mk (n + 2)))).setCell ⟨b, j * 9 + 3, none⟩ (.int .i64 ((n : Int) + 1 + 1 + 1))).setCell ⟨b, j * 9 + 4, none⟩ (.int .i64 ((n : Int) + 1 + 1 + 1 + 1))) 35 (ts.length * 9) b (c * 9) V G F (flatTm (markM k ts)) (j * 9 + 5) := hI4.set HF.out HG.out (by omega) HCL.out E4.out
      have c2 := HI2b.out.cell (i := j * 9 + 2) (by omega)
      have c3 := HI2b.out.cell (i := j * 9 + 3) (by omega)
      have c4 := HI2b.out.cell (i := j * 9 + 4) (by omega)
      have c5' := HI2b.out.cell (i := j * 9 + 5) (by omega)
      rw [if_neg (by omega), F5.out] at c5'
      have kz := HI2b.out.frozen
      have hC5 := markD_any (HTY.out j hlj) _ (n + 5) (hI5.rest (j * 9 + 5) (by omega) (by omega)) (by omega)
      rw [F5.out, show ((n + 5 : Nat) : Int) = (n : Int) + 1 + 1 + 1 + 1 + 1 by omega] at hC5
      have HC5 := Lib.hid hC5
      have HI5 := Lib.hid hI5
      clear hI3 hI4 hI5 hC5
      go_wp2_with fail
      refine HC5.out.mono ?_
      rintro e w3 ⟨rfl, ho3, hb3⟩
      rw [← F5.out] at ho3
      have HI6 := Lib.hid (HI5.out.call HG.out HD.out (by omega) E5.out (cellD_slice E5.out) ho3 hb3)
      clear c2 c3 c4 c5' kz ho3 hb3
      have hI7 : MInvD w0 w (w3.setCell ⟨b, j * 9 + 6, none⟩ (.int .i64 ((n + 5 + nodesS ts[j].ty.args : Nat) : Int))) 35 (ts.length * 9) b (c * 9) V G F (flatTm (markM k ts)) (j * 9 + 7) := HI6.out.set HF.out HG.out (by omega) HCL.out E6.out
      have c6 := HI6.out.cell (i := j * 9 + 6) (by omega)
      have c7' := HI6.out.cell (i := j * 9 + 7) (by omega)
      rw [if_neg (by omega), F7.out] at c7'
      have kz := HI6.out.frozen
      have hC7 := markD_any (HRE.out j hlj) _ (n + 6 + nodesS ts[j].ty.args) (hI7.rest (j * 9 + 7) (by omega) (by omega)) (by omega)
      rw [F7.out, show ((n + 6 + nodesS ts[j].ty.args : Nat) : Int) = ((n + 5 + nodesS ts[j].ty.args : Nat) : Int) + 1 by omega] at hC7
      have HC7 := Lib.hid hC7
      have HI7 := Lib.hid hI7
      clear hI7 hC7
      go_wp2_with fail
      refine HC7.out.mono ?_
      rintro e w4 ⟨rfl, ho4, hb4⟩
      rw [← F7.out] at ho4
      have HI8 := Lib.hid (HI7.out.call HG.out HD.out (by omega) E7.out (cellD_slice E7.out) ho4 hb4)
      clear c6 c7' kz ho4 hb4
      have d8 := HI8.out.cell (i := j * 9 + 8) (by omega)
      rw [if_neg (by omega), F8.out] at d8
      have kz := HI8.out.frozen
      have hC8 := HIH.out j hlj w4 (n + 6 + nodesS ts[j].ty.args + nodesS ts[j].res.args) (HI8.out.rest (j * 9 + 8) (by omega) (by omega)) (by omega) (by omega)
      rw [F8.out] at hC8
      have HC8 := Lib.hid hC8
      clear hC8
      go_wp2_with fail
      refine HC8.out.mono ?_
      rintro e w5 ⟨rfl, ho5, hb5⟩
      rw [← F8.out] at ho5
      have HI9 := Lib.hid (HI8.out.call HG.out HD.out (by omega) E8.out (cellD_slice E8.out) ho5 hb5)
      clear d8 kz ho5 hb5
      go_wp2_with fail
      go_roundw
      case rel =>
        refine ⟨j + 1, n + 6 + nodesS ts[j].ty.args + nodesS ts[j].res.args + cntM ts[j].args, by omega, by go_num, rfl, by have := HC2.out; have := HCQ.out; have := HN.out; omega, ?_⟩
        rw [show (j + 1) * 9 = j * 9 + 8 + 1 by omega]
        exact HI9.out
      case measure => simp [intOf]; omega
    · obtain rfl : j = ts.length := by omega
      go_wp2_with fail
      go_ret
      have h1 := HN.out
      rw [List.take_length] at h1
      subst h1
      refine ⟨rfl, ?_, HI.out.but⟩
      have key := HI.out.all HF.out HL.out HNC.out HM.out HG.out HD.out
      show DO wr (.rows 35 9 (markM k ts).length (flatTm (markM k ts))) _ F
      rw [markM_length]
      exact key
set_option maxRecDepth 100000 in
theorem markMS_nil (F : Nat → Prop) (w : World) (k : Nat) : Calls Tryd.prog 50 #[.slice none 0 0, .int .i64 k] w (MarkedM [] (.slice none 0 0) F k w) := by
  go_enter Tryd.func50, Tryd.ntmps50
  go_wp2_with fail
  go_loopw [1, 5] (fun q i wr => q = .int .i64 k ∧ i = .int .i64 0 ∧ wr = w) (fun _ _ _ => 0)
  case atStart => exact ⟨rfl, rfl, rfl⟩
  case round =>
    obtain ⟨rfl, rfl, rfl⟩ := hrel
    go_wp2_with fail
    go_ret
    exact ⟨by simp [cntM], .nil _ _ F, But.refl F _⟩
theorem markMS_any : ∀ (M : Nat) {w0 : World} {F : Nat → Prop} {ts : List Tm} {v : Value}, nodesM ts ≤ M → DO w0 (tmD ts) v F → ∀ (w : World) (k : Nat), Stays F w0 w → 1 ≤ k → k + cntM ts ≤ 1099511627776 →
    Calls Tryd.prog 50 #[v, .int .i64 k] w (MarkedM ts v F k w)
  | M, w0, F, ts, v, hM, h, w, k, hst, hk, hn => by
    rcases h.inv with ⟨h0, _, rfl⟩ | ⟨b, c, cur, V, G, rfl, hblk, hsz, hnc, hm, hl, hF, hv, hr, hG, hd⟩
    · obtain rfl := List.eq_nil_of_length_eq_zero h0
      exact markMS_nil F w k
    · refine markMS_row cur hblk hsz hnc hm hF hv hr hG hd (fun j hj W K hs h1 hb => ?_) w k hst hk hn
      have hle := nodesM_at ts j hj
      rw [Tm.nodes_eq] at hle
      match M, hM with
      | 0, hM => omega
      | M + 1, hM => exact markMS_any M (by omega) (hr _ _ (by rw [flatTm_at ts j 8 hj (by omega), Tm.ds_eq]; rfl)) W K hs h1 hb
end Go.Proofs.YtfeijijeohfpgaaDoor
namespace Go.Proofs.YtfeijijeohfpgaaDoor
open Go

section
variable (k n : Int) (a o : ByteArray) (t r : Ty) (ts : List Tm) (us : List Ty)
theorem cKind : (Tm.mk k a o n t r ts).kind = k := rfl
theorem cName : (Tm.mk k a o n t r ts).name = a := rfl
theorem cOther : (Tm.mk k a o n t r ts).other = o := rfl
theorem cN : (Tm.mk k a o n t r ts).n = n := rfl
theorem cTy : (Tm.mk k a o n t r ts).ty = t := rfl
theorem cRes : (Tm.mk k a o n t r ts).res = r := rfl
theorem cArgs : (Tm.mk k a o n t r ts).args = ts := rfl
theorem yKind : (Ty.mk k us).kind = k := rfl
theorem yArgs : (Ty.mk k us).args = us := rfl
end
end Go.Proofs.YtfeijijeohfpgaaDoor
