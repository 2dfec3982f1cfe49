/-
  Several texts of the proof in one (each says below what it holds): OpenM StrEq TmEq TmCopy TmCopy2 SpecTy SpecTy2 TmSpec Reduce Apply.
-/
import Derived.Test.YtnciibngcaajgaaDoorG1
import Derived.Test.YtnciibngcaajgaaDoorG2
import Derived.Laws.Strings
import Derived.Test.YtnciibngcaajgaaDoorProg
import Derived.WalkSmall
/- OpenM: An argument that is a term, opened: the tree that it reads as. -/
namespace Go.Proofs.YtnciibngcaajgaaDoor
open Go Go.ChangeShapes Go.WideShapes Go.RowKit

theorem cells_tm : Tryd.prog.cellsOf 43 = 9 := by kernel_rfl
theorem cells_str : Tryd.prog.cellsOf 9 = 1 := by kernel_rfl
theorem cells_slm : Tryd.prog.cellsOf 41 = 1 := by kernel_rfl

section
variable {H : Type} {enc : TypeId × Value → H} {w : World} {spare : Nat → Bool} {held : Bool}

theorem cell_of_cells9 {a : Addr} {cs : List Value} {base i : Nat} (h : w.cells? base (a.add (i * 9)) 9 = some cs) : cs.length = 9 ∧ ∀ j, j < 9 → w.cell? (a.add (i * 9 + j)) = cs[j]? := by
  unfold World.cells? at h
  split at h
  · have e : (List.range 9) = [0, 1, 2, 3, 4, 5, 6, 7, 8] := rfl
    rw [e] at h
    simp only [List.mapM_cons, List.mapM_nil, Option.bind_eq_bind, Option.bind_eq_some_iff, Option.pure_def, Option.some.injEq] at h
    obtain ⟨v0, h0, _, ⟨v1, h1, _, ⟨v2, h2, _, ⟨v3, h3, _, ⟨v4, h4, _, ⟨v5, h5, _, ⟨v6, h6, _, ⟨v7, h7, _, ⟨v8, h8, _, rfl, rfl⟩, rfl⟩, rfl⟩, rfl⟩, rfl⟩, rfl⟩, rfl⟩, rfl⟩, rfl⟩ := h
    rw [Go.Deep.add_add] at h0 h1 h2 h3 h4 h5 h6 h7 h8
    refine ⟨rfl, fun j hj => ?_⟩
    match j, hj with
    | 0, _ => exact h0
    | 1, _ => exact h1
    | 2, _ => exact h2
    | 3, _ => exact h3
    | 4, _ => exact h4
    | 5, _ => exact h5
    | 6, _ => exact h6
    | 7, _ => exact h7
    | 8, _ => exact h8
    | n + 9, hj => omega
  · cases h

set_option maxRecDepth 100000 in
set_option maxHeartbeats 2000000 in
/-- What a term's nine cells read as; what a slice of terms reads as. -/
theorem open_tm : ∀ (fuel : Nat), (∀ (cs : List Value) (x : DataW H × List MemPlace), DataW.trod enc Tryd.prog w 0 spare held fuel 43 cs = some x → ∃ (t : Tm) (tp : Option Addr) (tc : Nat) (rp : Option Addr) (rc : Nat) (p : Option Addr) (c : Nat),
      cs = (tmC t tp tc rp rc p c).toList ∧ TM' w (fun _ => True) t tp tc rp rc p c ∧ t.fit) ∧
    (∀ (cs : List Value) (x : DataW H × List MemPlace), DataW.trod enc Tryd.prog w 0 spare held fuel 41 cs = some x → ∃ (s : Value) (ts : List Tm), cs = [s] ∧ DM w (fun _ => True) (tmD ts) s ∧ fitS ts) := by
  intro fuel
  induction fuel using Nat.strongRecOn with
  | _ fuel IH =>
    constructor
    · intro cs x h
      obtain ⟨xs, n, hn, _, hl, hlen, hf⟩ := DataW.trod_struct Tryd.underlying43 h
      rw [cells_tm] at hl
      have g0 : DataW.trod enc Tryd.prog w 0 spare held n 3 ((cs.drop 0).take (Tryd.prog.cellsOf 3)) = xs[0]? := hf 0 _ rfl
      have g1 : DataW.trod enc Tryd.prog w 0 spare held n 9 ((cs.drop 1).take (Tryd.prog.cellsOf 9)) = xs[1]? := hf 1 _ rfl
      have g2 : DataW.trod enc Tryd.prog w 0 spare held n 9 ((cs.drop 2).take (Tryd.prog.cellsOf 9)) = xs[2]? := hf 2 _ rfl
      have g3 : DataW.trod enc Tryd.prog w 0 spare held n 3 ((cs.drop 3).take (Tryd.prog.cellsOf 3)) = xs[3]? := hf 3 _ rfl
      have g4 : DataW.trod enc Tryd.prog w 0 spare held n 40 ((cs.drop 4).take (Tryd.prog.cellsOf 40)) = xs[4]? := hf 4 _ rfl
      have g5 : DataW.trod enc Tryd.prog w 0 spare held n 40 ((cs.drop 6).take (Tryd.prog.cellsOf 40)) = xs[5]? := hf 5 _ rfl
      have g6 : DataW.trod enc Tryd.prog w 0 spare held n 41 ((cs.drop 8).take (Tryd.prog.cellsOf 41)) = xs[6]? := hf 6 _ rfl
      rw [cells_int] at g0 g3
      rw [cells_str] at g1 g2
      rw [cells_ty] at g4 g5
      rw [cells_slm] at g6
      match cs, hl, xs, hlen with
      | [c0, c1, c2, c3, c4, c5, c6, c7, c8], _, [y0, y1, y2, y3, y4, y5, y6], _ =>
        obtain ⟨k, hk, _, _⟩ := DataW.trod_int Tryd.underlying3 g0
        obtain ⟨sa, ha, _, za⟩ := DataW.trod_string Tryd.underlying9 g1
        obtain ⟨sb, hb, _, zb⟩ := DataW.trod_string Tryd.underlying9 g2
        obtain ⟨nn, hnn, _, _⟩ := DataW.trod_int Tryd.underlying3 g3
        obtain ⟨kt, st, tts, hst, htt⟩ := (open_ty n).1 _ _ g4
        obtain ⟨kr, sr, rts, hsr, hrt⟩ := (open_ty n).1 _ _ g5
        obtain ⟨s, ts, hs, ht, hfit⟩ := (IH n (by omega)).2 _ _ g6
        simp only [List.drop_zero, List.drop_succ_cons, List.take_succ_cons, List.take_zero, List.cons.injEq, and_true] at hk ha hb hnn hst hsr hs
        obtain ⟨rfl, rfl⟩ := hst
        obtain ⟨rfl, rfl⟩ := hsr
        subst hk ha hb hnn hs
        obtain ⟨tp, tc, rfl⟩ := htt.form
        obtain ⟨rp, rc, rfl⟩ := hrt.form
        obtain ⟨p, c, rfl⟩ := ht.form
        exact ⟨.mk k sa sb nn (.mk kt tts) (.mk kr rts) ts, tp, tc, rp, rc, p, c, rfl, ⟨htt, hrt, ht⟩, (Tm.fit_eq _).2 ⟨za, zb, hfit⟩⟩
    · intro cs x h
      rcases DataW.trod_slice Tryd.underlying41 h with ⟨rfl, _⟩ | ⟨a, len, cap, elems, rest, n, hn, rfl, _, _, hl, hm, hlen, hel, _, _⟩
      · exact ⟨_, [], rfl, .nil _ _ _ _, trivial⟩
      · by_cases h0 : len = 0
        · subst h0
          exact ⟨_, [], rfl, .nil _ _ _ _, trivial⟩
        rw [cells_tm] at hel
        have each : ∀ i, i < len → ∃ z : Tm, (∃ (tp : Option Addr) (tc : Nat) (rp : Option Addr) (rc : Nat) (p : Option Addr) (c : Nat),
            (∀ j, j < 9 → w.cell? (a.add (i * 9 + j)) = (tmC z tp tc rp rc p c).toList[j]?) ∧ TM' w (fun _ => True) z tp tc rp rc p c) ∧ z.fit := by
          intro i hi
          have hb := hel i hi
          rw [List.getElem?_eq_getElem (by omega), Option.bind_eq_some_iff] at hb
          obtain ⟨cs', hcs, ht⟩ := hb
          obtain ⟨t, tp, tc, rp, rc, p, c, rfl, hT, hft⟩ := (IH n (by omega)).1 _ _ ht
          exact ⟨t, ⟨tp, tc, rp, rc, p, c, (cell_of_cells9 hcs).2, hT⟩, hft⟩
        haveI : Inhabited Tm := ⟨.mk 0 .empty .empty 0 (.mk 0 []) (.mk 0 []) []⟩
        obtain ⟨f, hf⟩ := Go.Deep.choose_lt (α := Tm) each
        have hspot : a.spot = none := by
          obtain ⟨⟨_, _, _, _, _, _, h9, _⟩, _⟩ := hf 0 (by omega)
          have := h9 0 (by omega)
          simp only [Nat.zero_mul, Nat.zero_add] at this
          simpa [Addr.add] using World.cell?_spot this
        obtain ⟨b, o, sp⟩ := a
        simp only at hspot
        subst hspot
        simp only [Go.WideShapes.add_plain] at hf
        have hb : b < w.heap.size := by
          obtain ⟨⟨_, _, _, _, _, _, h9, _⟩, _⟩ := hf 0 (by omega)
          exact World.block_lt_of_cell? w _ (h9 0 (by omega))
        let ts := (List.range len).map fun i => f i
        have hts : ts.length = len := by simp [ts]
        have at_ : ∀ j (hj : j < ts.length), ts[j] = f j := by
          intro j hj
          simp [ts]
        -- every cell of the row is there and holds what its term asks
        have cell : ∀ (i : Nat) (d : D), (flatTm ts)[i]? = some d → ∃ v, w.cell? ⟨b, o + i, none⟩ = some v ∧ DM w (fun _ => True) d v := by
          intro i d hd
          have hi : i < ts.length * 9 := by
            rw [← flatTm_len]
            exact (List.getElem?_eq_some_iff.1 hd).1
          obtain ⟨j, k, hj, hk, rfl⟩ : ∃ j k, j < ts.length ∧ k < 9 ∧ i = j * 9 + k := ⟨i / 9, i % 9, by omega, by omega, by omega⟩
          rw [flatTm_at ts j k hj hk, Tm.ds_eq, at_ j hj] at hd
          obtain ⟨⟨tp, tc, rp, rc, p, c, h9, hT⟩, _⟩ := hf j (by omega)
          have h := h9 k hk
          match k, hk with
          | 0, _ => cases hd; exact ⟨_, h, .cell _⟩
          | 1, _ => cases hd; exact ⟨_, h, .cell _⟩
          | 2, _ => cases hd; exact ⟨_, h, .cell _⟩
          | 3, _ => cases hd; exact ⟨_, h, .cell _⟩
          | 4, _ => cases hd; exact ⟨_, h, .cell _⟩
          | 5, _ => cases hd; exact ⟨_, h, hT.ty.dm⟩
          | 6, _ => cases hd; exact ⟨_, h, .cell _⟩
          | 7, _ => cases hd; exact ⟨_, h, hT.res.dm⟩
          | 8, _ => cases hd; exact ⟨_, h, hT.args⟩
          | n + 9, hk => omega
        have pick : ∀ i, i < ts.length * 9 → ∃ v : Value, w.cell? ⟨b, o + i, none⟩ = some v ∧ ∀ d, (flatTm ts)[i]? = some d → DM w (fun _ => True) d v := by
          intro i hi
          obtain ⟨v, h1, h2⟩ := cell i _ (List.getElem?_eq_getElem (by rw [flatTm_len]; exact hi))
          refine ⟨v, h1, fun d hd => ?_⟩
          rw [List.getElem?_eq_getElem (by rw [flatTm_len]; exact hi)] at hd
          exact (Option.some.inj hd) ▸ h2
        haveI : Inhabited Value := ⟨.int .i64 0⟩
        obtain ⟨V, hV⟩ := Go.Deep.choose_lt (α := Value) pick
        refine ⟨_, ts, rfl, ?_, fitS_of ts fun j hj => ?_⟩
        · have key := DM.rows (w := w) (C := fun _ => True) (T := 29) (k := 9) (n := ts.length) (b := b) (o := o) (c := cap) (ds := flatTm ts) V (by omega) (by omega) (by unfold maxLen at hm; omega) (flatTm_len ts) trivial hb
            (fun i d hd => (hV i (by rw [← flatTm_len]; exact (List.getElem?_eq_some_iff.1 hd).1)).1) (fun i d hd => (hV i (by rw [← flatTm_len]; exact (List.getElem?_eq_some_iff.1 hd).1)).2 d hd)
          rw [hts] at key
          show DM w _ (.rows _ 9 ts.length (flatTm ts)) _
          rw [hts]
          exact key
        · rw [at_ j hj]
          exact (hf j (by omega)).2
end

set_option maxRecDepth 100000 in
/-- THE ARGUMENT OPENED. -/
theorem open_term {H : Type} {enc : TypeId × Value → H} {W : World} {spare : Nat → Bool} {held : Bool} {r : Reach} {b0 : Nat} {v : Value} {d : DataW H} {p : List MemPlace}
    (hv : Value.okWide Tryd.prog W r b0 43 v) (h : DataW.Trod enc Tryd.prog W 0 spare held 43 v d p) : ∃ t : Tm, TM W (fun _ => True) t v ∧ t.fit := by
  obtain ⟨cs, rfl, hsz⟩ := okWide_struct Tryd.underlying43 hv
  obtain ⟨fuel, hf⟩ := h
  obtain ⟨t, tp, tc, rp, rc, p, c, hcs, ht, hfit⟩ := (open_tm fuel).1 _ _ hf
  have hcs' : cs = tmC t tp tc rp rc p c := by
    have : cs.toList = (tmC t tp tc rp rc p c).toList := hcs
    exact Array.toList_inj.1 this
  subst hcs'
  exact ⟨t, ⟨tp, tc, rp, rc, p, c, rfl, ht⟩, hfit⟩
end Go.Proofs.YtnciibngcaajgaaDoor
/- StrEq: Comparing strings, of no program: what the walk's test says. -/
namespace Go.Proofs.YtnciibngcaajgaaDoor
open Go

theorem str_inj {a b : ByteArray} (h : a.toList = b.toList) : a = b := by
  rw [ByteArray.toList_eq, ByteArray.toList_eq] at h
  obtain ⟨⟨a⟩⟩ := a
  obtain ⟨⟨b⟩⟩ := b
  rw [show a = b from h]
theorem str_yes {a b : ByteArray} (h : a = b) : (a.toList == b.toList) = true := by rw [h]; simp
theorem str_no {a b : ByteArray} (h : ¬ a = b) : (a.toList == b.toList) = false := by
  rw [beq_eq_false_iff_ne]
  exact fun hc => h (str_inj hc)
end Go.Proofs.YtnciibngcaajgaaDoor
/- TmEq: The contract of the laws' eqTermS and eqTerm: whether two terms are the same. -/
namespace Go.Proofs.YtnciibngcaajgaaDoor
open Go Go.RowKit

set_option maxRecDepth 100000 in
set_option maxHeartbeats 2000000 in
theorem eqM_of {C C' : Nat → Prop} {t u : Tm} {tp rp p tp' rp' p' : Option Addr} {tc rc c tc' rc' c' : Nat} {w : World} (hT : TM' w C t tp tc rp rc p c) (hU : TM' w C' u tp' tc' rp' rc' p' c')
    (h : ∀ (w' : World), Below w.heap.size w w' → Calls Tryd.prog 47 #[.slice p t.args.length c, .slice p' u.args.length c'] w' (BoolRet (fun b => b = true ↔ t.args = u.args) w')) :
    Calls Tryd.prog 22 #[tmV t tp tc rp rc p c, tmV u tp' tc' rp' rc' p' c'] w (BoolRet (fun b => b = true ↔ t = u) w) := by
  have HH := Lib.hid h
  have HT := Lib.hid hT
  have HU := Lib.hid hU
  have hb1 := al_below w (.cells (tmC t tp tc rp rc p c) 29)
  have hb2 := al_below (w.alloc (.cells (tmC t tp tc rp rc p c) 29)) (.cells (tmC u tp' tc' rp' rc' p' c') 29)
  have hx2 := Bx9.new (w.alloc (.cells (tmC t tp tc rp rc p c) 29)) u tp' tc' rp' rc' p' c' 29
  rw [World.size_alloc] at hx2
  have HX1 := Lib.hid ((Bx9.new w t tp tc rp rc p c 29).keep hb2)
  have HX2 := Lib.hid hx2
  have HB0 := Lib.hid (hb1.trans (hb2.mono (by simp)))
  clear h hT hU hb1 hb2 hx2
  go_enter Tryd.func22, Tryd.ntmps22
  by_cases hk : t.kind = u.kind
  rotate_left
  · go_wp2_with fail
    go_ret
    exact ⟨false, by simp; exact fun e => hk (by rw [e]), rfl, HB0.out⟩
  have hk1 : t.kind ≤ u.kind := by omega
  have hk2 : u.kind ≤ t.kind := by omega
  have HK := Lib.hid hk
  clear hk
  by_cases hn : t.name = u.name
  rotate_left
  · have hn1 := str_no hn
    have HN := Lib.hid hn
    clear hn
    go_wp2_with fail
    go_ret
    exact ⟨false, by simp; exact fun e => HN.out (by rw [e]), rfl, HB0.out⟩
  have hn1 := str_yes hn
  have HN := Lib.hid hn
  clear hn
  by_cases ho : t.other = u.other
  rotate_left
  · have ho1 := str_no ho
    have HO := Lib.hid ho
    clear ho
    go_wp2_with fail
    go_ret
    exact ⟨false, by simp; exact fun e => HO.out (by rw [e]), rfl, HB0.out⟩
  have ho1 := str_yes ho
  have HO := Lib.hid ho
  clear ho
  by_cases hi : t.n = u.n
  rotate_left
  · go_wp2_with fail
    go_ret
    exact ⟨false, by simp; exact fun e => hi (by rw [e]), rfl, HB0.out⟩
  have HC3 := Lib.hid (eqT_any (C := C) (C' := C') (t := t.ty) (u := u.ty) (v := .agg #[.int .i64 t.ty.kind, .slice tp t.ty.args.length tc]) (x := .agg #[.int .i64 u.ty.kind, .slice tp' u.ty.args.length tc']) ⟨_, rfl, HT.out.ty.stays (.of_below HB0.out)⟩ ⟨_, rfl, HU.out.ty.stays (.of_below HB0.out)⟩)
  have hi1 : t.n ≤ u.n := by omega
  have hi2 : u.n ≤ t.n := by omega
  have HI := Lib.hid hi
  clear hi
  go_wp2_with fail
  refine HC3.out.mono ?_
  rintro e w3 ⟨r3, hr3, rfl, hb3⟩
  have HR3 := Lib.hid hr3
  have HB3 := Lib.hid (HB0.out.trans (hb3.mono HB0.out.size))
  have HX13 := Lib.hid (HX1.out.keep hb3)
  have HX23 := Lib.hid (HX2.out.keep hb3)
  obtain ⟨_, _, _, _, _, _, g6, g7, _⟩ := HX1.out.keep hb3
  obtain ⟨_, _, _, _, _, _, d6, d7, _⟩ := HX2.out.keep hb3
  clear hr3 hb3 HC3
  cases r3
  · go_wp2_with fail
    go_ret
    exact ⟨false, by simp; exact fun e => (by have := HR3.out.2 (by rw [e]); cases this), rfl, HB3.out⟩
  have HC4 := Lib.hid (eqT_any (C := C) (C' := C') (t := t.res) (u := u.res) (v := .agg #[.int .i64 t.res.kind, .slice rp t.res.args.length rc]) (x := .agg #[.int .i64 u.res.kind, .slice rp' u.res.args.length rc']) ⟨_, rfl, HT.out.res.stays (.of_below HB3.out)⟩ ⟨_, rfl, HU.out.res.stays (.of_below HB3.out)⟩)
  go_wp2_with fail
  refine HC4.out.mono ?_
  rintro e w4 ⟨r4, hr4, rfl, hb4⟩
  have HR4 := Lib.hid hr4
  have HB4 := Lib.hid (HB3.out.trans (hb4.mono HB3.out.size))
  clear g6 g7 d6 d7
  obtain ⟨_, _, _, _, _, _, _, _, g8⟩ := HX13.out.keep hb4
  obtain ⟨_, _, _, _, _, _, _, _, d8⟩ := HX23.out.keep hb4
  clear hr4 hb4 HC4
  cases r4
  · go_wp2_with fail
    go_ret
    exact ⟨false, by simp; exact fun e => (by have := HR4.out.2 (by rw [e]); cases this), rfl, HB4.out⟩
  have HC5 := Lib.hid (HH.out w4 HB4.out)
  go_wp2_with fail
  refine HC5.out.mono ?_
  rintro e w5 ⟨r5, hr5, rfl, hb5⟩
  have HR5 := Lib.hid hr5
  have HB5 := Lib.hid (HB4.out.trans (hb5.mono HB4.out.size))
  clear hr5 hb5 HC5
  cases r5
  · go_wp2_with fail
    go_ret
    exact ⟨false, by simp; exact fun e => (by have := HR5.out.2 (by rw [e]); cases this), rfl, HB5.out⟩
  · go_wp2_with fail
    go_ret
    exact ⟨true, by simp only [true_iff]; exact Tm.ext' HK.out HN.out HO.out HI.out (by simpa using HR3.out) (by simpa using HR4.out) (by simpa using HR5.out), rfl, HB5.out⟩

theorem keepN {W w1 : World} {p : Addr} {v : Value} (hb1 : Below W.heap.size W w1) (h : W.cell? p = some v) : w1.cell? p = some v := (hb1.cell (World.block_lt_of_cell? W _ h)).trans h
theorem keep18 {w W w1 : World} {p0 p1 p2 p3 p4 p5 p6 p7 p8 p9 p10 p11 p12 p13 p14 p15 p16 p17 : Addr} {v0 v1 v2 v3 v4 v5 v6 v7 v8 v9 v10 v11 v12 v13 v14 v15 v16 v17 : Value} (hb1 : Below W.heap.size W w1) (h : W.cell? p0 = some v0 ∧ W.cell? p1 = some v1 ∧ W.cell? p2 = some v2 ∧ W.cell? p3 = some v3 ∧ W.cell? p4 = some v4 ∧ W.cell? p5 = some v5 ∧ W.cell? p6 = some v6 ∧ W.cell? p7 = some v7 ∧ W.cell? p8 = some v8 ∧ W.cell? p9 = some v9 ∧ W.cell? p10 = some v10 ∧ W.cell? p11 = some v11 ∧ W.cell? p12 = some v12 ∧ W.cell? p13 = some v13 ∧ W.cell? p14 = some v14 ∧ W.cell? p15 = some v15 ∧ W.cell? p16 = some v16 ∧ W.cell? p17 = some v17 ∧ Below w.heap.size w W) : w1.cell? p0 = some v0 ∧ w1.cell? p1 = some v1 ∧ w1.cell? p2 = some v2 ∧ w1.cell? p3 = some v3 ∧ w1.cell? p4 = some v4 ∧ w1.cell? p5 = some v5 ∧ w1.cell? p6 = some v6 ∧ w1.cell? p7 = some v7 ∧ w1.cell? p8 = some v8 ∧ w1.cell? p9 = some v9 ∧ w1.cell? p10 = some v10 ∧ w1.cell? p11 = some v11 ∧ w1.cell? p12 = some v12 ∧ w1.cell? p13 = some v13 ∧ w1.cell? p14 = some v14 ∧ w1.cell? p15 = some v15 ∧ w1.cell? p16 = some v16 ∧ w1.cell? p17 = some v17 ∧ Below w.heap.size w w1 := by
  obtain ⟨h0, h1, h2, h3, h4, h5, h6, h7, h8, h9, h10, h11, h12, h13, h14, h15, h16, h17, hz⟩ := h
  exact ⟨keepN hb1 h0, keepN hb1 h1, keepN hb1 h2, keepN hb1 h3, keepN hb1 h4, keepN hb1 h5, keepN hb1 h6, keepN hb1 h7, keepN hb1 h8, keepN hb1 h9, keepN hb1 h10, keepN hb1 h11, keepN hb1 h12, keepN hb1 h13, keepN hb1 h14, keepN hb1 h15, keepN hb1 h16, keepN hb1 h17, hz.trans (hb1.mono hz.size)⟩

theorem tm_take_eq {ts us : List Tm} {k : Nat} (h : ts.take k = us.take k) (h1 : k < ts.length) (h2 : k < us.length) (he : ts[k] = us[k]) : ts.take (k + 1) = us.take (k + 1) := by
  rw [List.take_add_one, List.take_add_one, h, List.getElem?_eq_getElem h1, List.getElem?_eq_getElem h2, he]
theorem tm_ne_at {ts us : List Tm} {k : Nat} (h1 : k < ts.length) (h2 : k < us.length) (hn : ¬ ts[k] = us[k]) : ts ≠ us := by
  intro e; subst e; exact hn rfl

set_option maxRecDepth 100000 in
set_option maxHeartbeats 2000000 in
theorem eqMS_any {w0 : World} {C : Nat → Prop} {ts : List Tm} {v : Value} (h : DM w0 C (tmD ts) v) : ∀ (w : World) (C' : Nat → Prop) (us : List Tm) (u : Value), Stays C w0 w → DM w C' (tmD us) u →
    Calls Tryd.prog 47 #[v, u] w (BoolRet (fun b => b = true ↔ ts = us) w) := by
  refine tm_ind (motive := fun ts v => ∀ (w : World) (C' : Nat → Prop) (us : List Tm) (u : Value), Stays C w0 w → DM w C' (tmD us) u → Calls Tryd.prog 47 #[v, u] w (BoolRet (fun b => b = true ↔ ts = us) w)) ?_ _ (Nat.le_refl _) h
  intro ts q d hlen0 H w C' us u hst hu
  obtain ⟨q', d', rfl⟩ := hu.form
  have hlen' := hu.len.1
  have HH := Lib.hid H
  have HST := Lib.hid hst
  have HU := Lib.hid hu
  clear H hst hu
  go_enter Tryd.func47, Tryd.ntmps47
  by_cases hlen : ts.length = us.length
  rotate_left
  · have hne : ¬ (ts = us) := fun e => hlen (by rw [e])
    have HN := Lib.hid hne
    clear hne
    go_wp2_with fail
    go_ret
    exact ⟨false, by simpa using HN.out, rfl, Below.refl _ _⟩
  have HL := Lib.hid hlen
  rw [← hlen]
  clear hlen
  go_wp2_with fail
  go_loopw [5] (fun i wr => ∃ (k : Nat), k ≤ ts.length ∧ i = .int .i64 k ∧ ts.take k = us.take k ∧ Below w.heap.size w wr) (fun i _ => ts.length - (intOf i).toNat)
  case atStart => exact ⟨0, Nat.zero_le _, rfl, by simp, Below.refl _ _⟩
  case round =>
    obtain ⟨k, hk, rfl, htk, hbr⟩ := hrel
    have HTK := Lib.hid htk
    have HB := Lib.hid hbr
    have HSR := Lib.hid (HST.out.trans (Stays.of_below (C := C) hbr))
    clear htk
    by_cases hlk : k < ts.length
    · have hlk2 : k < us.length := by rw [← HL.out]; exact hlk
      obtain ⟨b, o, tp, tc, rp, rc, p, c, rfl, hC, hb, h9, hT, hI⟩ := HH.out k hlk
      obtain ⟨b2, o2, tp2, tc2, rp2, rc2, p2, c2, rfl, hC2, hb2, h92, hT2⟩ := tm_part HU.out k hlk2
      obtain ⟨g0, g1, g2, g3, g4, g5, g6, g7, g8⟩ := h9 wr HSR.out
      obtain ⟨d0, d1, d2, d3, d4, d5, d6, d7, d8⟩ := h92 wr (.of_below hbr)
      have HC := Lib.hid (eqM_of (w := wr.drew) (C := C) (C' := C') ((hT.stays HSR.out).stays (.of_below (Below.refl _ _).drew)) ((hT2.stays (.of_below hbr)).stays (.of_below (Below.refl _ _).drew)) (fun w' hw' => by
        have hw1 : Below wr.heap.size wr w' := (Below.refl _ _).drew.trans hw'
        exact hI w' C' _ _ (HSR.out.trans (.of_below hw1)) ((hT2.stays (.of_below hbr)).args.stays (.of_below hw1))))
      have i0 : (0 : Int) ≤ (k : Int) := Int.natCast_nonneg _
      have i1 : (k : Int) < (ts.length : Int) := by omega
      clear hC hb h9 hT hI hC2 hb2 h92 hT2 hbr
      go_wp2_with fail
      go_region_held3 (fun w' => w'.cell? ⟨b, o + k * 9, none⟩ = some (.int .i64 ts[k].kind) ∧ w'.cell? ⟨b, o + k * 9 + 1, none⟩ = some (.string ts[k].name) ∧ w'.cell? ⟨b, o + k * 9 + 2, none⟩ = some (.string ts[k].other) ∧ w'.cell? ⟨b, o + k * 9 + 3, none⟩ = some (.int .i64 ts[k].n) ∧ w'.cell? ⟨b, o + k * 9 + 4, none⟩ = some (.int .i64 ts[k].ty.kind) ∧ w'.cell? ⟨b, o + k * 9 + 5, none⟩ = some (.slice tp ts[k].ty.args.length tc) ∧ w'.cell? ⟨b, o + k * 9 + 6, none⟩ = some (.int .i64 ts[k].res.kind) ∧ w'.cell? ⟨b, o + k * 9 + 7, none⟩ = some (.slice rp ts[k].res.args.length rc) ∧ w'.cell? ⟨b, o + k * 9 + 8, none⟩ = some (.slice p ts[k].args.length c) ∧ w'.cell? ⟨b2, o2 + k * 9, none⟩ = some (.int .i64 us[k].kind) ∧ w'.cell? ⟨b2, o2 + k * 9 + 1, none⟩ = some (.string us[k].name) ∧ w'.cell? ⟨b2, o2 + k * 9 + 2, none⟩ = some (.string us[k].other) ∧ w'.cell? ⟨b2, o2 + k * 9 + 3, none⟩ = some (.int .i64 us[k].n) ∧ w'.cell? ⟨b2, o2 + k * 9 + 4, none⟩ = some (.int .i64 us[k].ty.kind) ∧ w'.cell? ⟨b2, o2 + k * 9 + 5, none⟩ = some (.slice tp2 us[k].ty.args.length tc2) ∧ w'.cell? ⟨b2, o2 + k * 9 + 6, none⟩ = some (.int .i64 us[k].res.kind) ∧ w'.cell? ⟨b2, o2 + k * 9 + 7, none⟩ = some (.slice rp2 us[k].res.args.length rc2) ∧ w'.cell? ⟨b2, o2 + k * 9 + 8, none⟩ = some (.slice p2 us[k].args.length c2) ∧ Below w.heap.size w w')
        (first
          | (go_keep; done)
          | exact ⟨g0, g1, g2, g3, g4, g5, g6, g7, g8, d0, d1, d2, d3, d4, d5, d6, d7, d8, HB.out.drew⟩
          | exact keep18 hb1 (by assumption))
        (first
          | (go_at_call 22; refine HC.out.mono ?_; rintro e w1 ⟨r, hr, rfl, hb1⟩))
      have HR := Lib.hid hr
      have HB1 := Lib.hid (HB.out.trans (((Below.refl _ _).drew.trans hb1).mono HB.out.size))
      rename_i hH
      clear hH hb1 hr g0 g1 g2 g3 g4 g5 g6 g7 g8 d0 d1 d2 d3 d4 d5 d6 d7 d8
      cases r with
      | true =>
        go_wp2_with fail
        go_roundw
        case rel => exact ⟨k + 1, by omega, by go_num, tm_take_eq HTK.out hlk hlk2 (HR.out.1 rfl), HB1.out⟩
        case measure => simp [intOf]; omega
      | false =>
        go_wp2_with fail
        go_ret
        exact ⟨false, by simpa using tm_ne_at hlk hlk2 (fun e => by simpa using HR.out.2 e), rfl, HB1.out⟩
    · obtain rfl : k = ts.length := by omega
      have htk : ts = us := by
        have := HTK.out
        rw [List.take_length, HL.out, List.take_length] at this
        exact this
      have HE := Lib.hid htk
      clear htk
      go_wp2_with fail
      go_ret
      exact ⟨true, by simpa using HE.out, rfl, HB.out⟩
/-- THE LAWS' eqTerm, AT ANY TWO TERMS. -/
theorem eqM_any {C C' : Nat → Prop} {t u : Tm} {v x : Value} {w : World} (h : TM w C t v) (h2 : TM w C' u x) :
    Calls Tryd.prog 22 #[v, x] w (BoolRet (fun b => b = true ↔ t = u) w) := by
  obtain ⟨tp, tc, rp, rc, p, c, rfl, hT⟩ := h
  obtain ⟨tp2, tc2, rp2, rc2, p2, c2, rfl, hU⟩ := h2
  exact eqM_of hT hU (fun w' hb => eqMS_any hT.args w' _ _ _ (.of_below hb) (hU.args.keep hb))
#print axioms eqM_any
end Go.Proofs.YtnciibngcaajgaaDoor
/- TmCopy: The contract of the laws' toTermS and toTerm: the same term, in rows of the call's own. -/
namespace Go.Proofs.YtnciibngcaajgaaDoor
open Go Go.RowKit

theorem infoTm : (Tryd.prog.info? 29).map (fun i => (i.zero, i.size, i.bytes)) = some (some (.agg #[.int .i64 0, .string ⟨#[]⟩, .string ⟨#[]⟩, .int .i64 0, .int .i64 0, .slice none 0 0, .int .i64 0, .slice none 0 0, .slice none 0 0]), 9, 136) := by kernel_rfl

theorem chain3 (w : World) (a b c : Obj) : ((((w.alloc a).alloc b).alloc c).heap[w.heap.size]? = some a ∧ (((w.alloc a).alloc b).alloc c).heap[w.heap.size + 1]? = some b ∧ (((w.alloc a).alloc b).alloc c).heap[w.heap.size + 1 + 1]? = some c) ∧
    (((w.alloc a).alloc b).alloc c).heap.size = w.heap.size + 3 ∧ Below w.heap.size w (((w.alloc a).alloc b).alloc c) := by
  refine ⟨⟨?_, ?_, ?_⟩, by simp, ((al_below w a).trans ((al_below _ b).mono (by simp))).trans ((al_below _ c).mono (by simp; omega))⟩
  · rw [Below.heap_alloc _ _ _ (by simp; omega), Below.heap_alloc _ _ _ (by simp)]; exact blk_new w a
  · rw [Below.heap_alloc _ _ _ (by simp)]
    have := blk_new (w.alloc a) b
    rwa [World.size_alloc] at this
  · have := blk_new ((w.alloc a).alloc b) c
    rwa [World.size_alloc, World.size_alloc] at this

/-- A term of the call's own; F: the blocks, which are apart. -/
abbrev tmL (t : Tm) (tp : Option Addr) (tc : Nat) (rp : Option Addr) (rc : Nat) (p : Option Addr) (c : Nat) : List Value :=
  [.int .i64 t.kind, .string t.name, .string t.other, .int .i64 t.n, .int .i64 t.ty.kind, .slice tp t.ty.args.length tc, .int .i64 t.res.kind, .slice rp t.res.args.length rc, .slice p t.args.length c]
def OMv (w : World) (t : Tm) (v : Value) (F : Nat → Prop) : Prop := ∃ tp tc rp rc p c, v = tmV t tp tc rp rc p c ∧ OSt w t.ds (tmL t tp tc rp rc p c) F
theorem OSt.tm {w : World} {t : Tm} {tp rp p : Option Addr} {tc rc c : Nat} {F : Nat → Prop} (h : OSt w t.ds (tmL t tp tc rp rc p c) F) : TM' w F t tp tc rp rc p c := by
  have hm := h.ms.2
  rw [t.ds_eq] at hm
  exact ⟨(hm 5 _ _ rfl rfl).ts _ (Nat.le_refl _), (hm 7 _ _ rfl rfl).ts _ (Nat.le_refl _), hm 8 _ _ rfl rfl⟩
theorem OMv.tm {w : World} {t : Tm} {v : Value} {F : Nat → Prop} (h : OMv w t v F) : TM w F t v := by
  obtain ⟨tp, tc, rp, rc, p, c, hv, h⟩ := h
  exact ⟨tp, tc, rp, rc, p, c, hv, h.tm⟩
theorem OMv.stays {w w' : World} {t : Tm} {v : Value} {F : Nat → Prop} (h : OMv w t v F) (hs : Stays F w w') : OMv w' t v F := by
  obtain ⟨tp, tc, rp, rc, p, c, hv, h⟩ := h
  exact ⟨tp, tc, rp, rc, p, c, hv, h.stays hs⟩
theorem OMv.keep {w w' : World} {t : Tm} {v : Value} {F : Nat → Prop} (h : OMv w t v F) (hb : Below w.heap.size w w') : OMv w' t v F := h.stays (.of_below hb)
theorem OMv.mono {w : World} {t : Tm} {v : Value} {F F' : Nat → Prop} (h : OMv w t v F) (hF : ∀ b, F b → F' b) : OMv w t v F' := by
  obtain ⟨tp, tc, rp, rc, p, c, hv, h⟩ := h
  exact ⟨tp, tc, rp, rc, p, c, hv, h.mono hF⟩
theorem OSt9 {w : World} {t : Tm} {tp rp p : Option Addr} {tc rc c : Nat} {F F1 F2 F3 : Nat → Prop} (h1 : OS w t.ty.args (.slice tp t.ty.args.length tc) F1) (h2 : OS w t.res.args (.slice rp t.res.args.length rc) F2) (h3 : DO w (tmD t.args) (.slice p t.args.length c) F3)
    (a1 : ∀ z, F1 z → F z ∧ ¬ F2 z ∧ ¬ F3 z) (a2 : ∀ z, F2 z → F z ∧ ¬ F3 z) (a3 : ∀ z, F3 z → F z) : OSt w t.ds (tmL t tp tc rp rc p c) F := by
  refine ⟨by rw [t.ds_len]; rfl, fun i z => (i = 5 ∧ F1 z) ∨ (i = 7 ∧ F2 z) ∨ (i = 8 ∧ F3 z), fun i d v hd hv => ?_, fun i z _ hz => ?_, fun i j z _ _ hij hz1 hz2 => ?_⟩
  · rw [t.ds_eq] at hd
    match i, hd, hv with
    | 0, hd, hv => cases hd; cases hv; exact .cell _ _
    | 1, hd, hv => cases hd; cases hv; exact .cell _ _
    | 2, hd, hv => cases hd; cases hv; exact .cell _ _
    | 3, hd, hv => cases hd; cases hv; exact .cell _ _
    | 4, hd, hv => cases hd; cases hv; exact .cell _ _
    | 5, hd, hv => cases hd; cases hv; exact h1.dO.mono (fun z hz => Or.inl ⟨rfl, hz⟩)
    | 6, hd, hv => cases hd; cases hv; exact .cell _ _
    | 7, hd, hv => cases hd; cases hv; exact h2.dO.mono (fun z hz => Or.inr (Or.inl ⟨rfl, hz⟩))
    | 8, hd, hv => cases hd; cases hv; exact h3.mono (fun z hz => Or.inr (Or.inr ⟨rfl, hz⟩))
    | n + 9, hd, hv => simp at hv
  · rcases hz with ⟨_, hz⟩ | ⟨_, hz⟩ | ⟨_, hz⟩
    · exact (a1 z hz).1
    · exact (a2 z hz).1
    · exact a3 z hz
  · rcases hz1 with ⟨rfl, h1⟩ | ⟨rfl, h1⟩ | ⟨rfl, h1⟩ <;> rcases hz2 with ⟨rfl, h2⟩ | ⟨rfl, h2⟩ | ⟨rfl, h2⟩
    · exact hij rfl
    · exact (a1 z h1).2.1 h2
    · exact (a1 z h1).2.2 h2
    · exact (a1 z h2).2.1 h1
    · exact hij rfl
    · exact (a2 z h1).2 h2
    · exact (a1 z h2).2.2 h1
    · exact (a2 z h2).2 h1
    · exact hij rfl

/-- A new term: the same as t, in blocks that were not there. -/
def NewM (t : Tm) (w : World) (e : Ending) (w' : World) : Prop := ∃ v, e = .returned v ∧ OMv w' t v (fun g => w.heap.size ≤ g ∧ g < w'.heap.size) ∧ Below w.heap.size w w'
def NewMS (ts : List Tm) (w : World) (e : Ending) (w' : World) : Prop := ∃ v, e = .returned v ∧ DO w' (tmD ts) v (fun g => w.heap.size ≤ g ∧ g < w'.heap.size) ∧ Below w.heap.size w w'

set_option maxRecDepth 100000 in
set_option maxHeartbeats 2000000 in
theorem toM_of {C : Nat → Prop} {t : Tm} {tp rp p : Option Addr} {tc rc c : Nat} {w : World} (hT : TM' w C t tp tc rp rc p c) (hn : t.wt ≤ 1048576)
    (h : ∀ (w' : World), Below w.heap.size w w' → Calls Tryd.prog 45 #[.slice p t.args.length c] w' (NewMS t.args w')) :
    Calls Tryd.prog 21 #[tmV t tp tc rp rc p c] w (NewM t w) := by
  have hwt := t.wt_eq
  have n1 : nodesS t.ty.args ≤ 1048576 := by omega
  have n2 : nodesS t.res.args ≤ 1048576 := by omega
  obtain ⟨⟨k0, k1, k2⟩, hsz, hbl⟩ := chain3 w (.cells (tmC t tp tc rp rc p c) 43) (.cells #[.int .i64 0, .string ⟨#[]⟩, .string ⟨#[]⟩, .int .i64 0, .int .i64 0, .slice none 0 0, .int .i64 0, .slice none 0 0, .slice none 0 0] 29)
    (.cells #[.int .i64 t.kind, .string t.name, .string t.other, .int .i64 t.n, .int .i64 0, .slice none 0 0, .int .i64 0, .slice none 0 0, .slice none 0 0] 29)
  have HH := Lib.hid h
  have HT := Lib.hid hT
  have HK0 := Lib.hid k0
  have HK1 := Lib.hid k1
  have HK2 := Lib.hid k2
  have HSZ := Lib.hid hsz
  have HBL := Lib.hid hbl
  clear h hT hwt hn k0 k1 k2 hsz hbl
  go_enter Tryd.func21, Tryd.ntmps21
  go_wp2_with fail
  refine (toT_any (C := C) (t := t.ty) (v := .agg #[.int .i64 t.ty.kind, .slice tp t.ty.args.length tc]) ⟨_, rfl, HT.out.ty.keep HBL.out⟩ n1).mono ?_
  rintro e w1 ⟨v1, rfl, ⟨s1, rfl, ho1⟩, hb1⟩
  obtain ⟨p1, c1, rfl⟩ := ho1.form
  have hb1s := hb1.size
  rw [HSZ.out] at hb1 hb1s ho1
  have q0 := (hb1.block w.heap.size (by omega)).trans HK0.out
  have q1 := (hb1.block (w.heap.size + 1) (by omega)).trans HK1.out
  have q2 := (hb1.block (w.heap.size + 1 + 1) (by omega)).trans HK2.out
  obtain ⟨_, _, _, _, _, _, x6, x7, x8⟩ := Bx9.of q0
  have y4 : w1.cell? ⟨w.heap.size + 1 + 1, 4, none⟩ = some (.int .i64 0) := cell_of_blk q2 4
  have y5 : w1.cell? ⟨w.heap.size + 1 + 1, 5, none⟩ = some (.slice none 0 0) := cell_of_blk q2 5
  have yz := unfrozen_of_blk q2
  have e2 := heap_setCell_same _ _ 5 _ _ (.slice p1 t.ty.args.length c1) (heap_setCell_same w1 _ 4 _ _ (.int .i64 t.ty.kind) q2)
  have st : ∀ F : Nat → Prop, ¬ F (w.heap.size + 1 + 1) → Stays F w1 ((w1.setCell ⟨w.heap.size + 1 + 1, 4, none⟩ (.int .i64 t.ty.kind)).setCell ⟨w.heap.size + 1 + 1, 5, none⟩ (.slice p1 t.ty.args.length c1)) := fun F hF => (setCell_stays _ _ _ _ F hF).trans (setCell_stays _ _ _ _ F hF)
  have HS1 := Lib.hid (st (fun z => z ≠ w.heap.size + 1 + 1) (by simp))
  have HO1 := Lib.hid (ho1.stays (st _ (by omega)))
  have HQ0 := Lib.hid ((HS1.out.2 w.heap.size (by omega) (by omega)).trans q0)
  have HQ1 := Lib.hid ((HS1.out.2 (w.heap.size + 1) (by omega) (by omega)).trans q1)
  have HQ2 := Lib.hid e2
  have hB2 : Below w.heap.size w ((w1.setCell ⟨w.heap.size + 1 + 1, 4, none⟩ (.int .i64 t.ty.kind)).setCell ⟨w.heap.size + 1 + 1, 5, none⟩ (.slice p1 t.ty.args.length c1)) :=
    ((HBL.out.trans (hb1.mono (by omega))).setCell (p := ⟨w.heap.size + 1 + 1, 4, none⟩) (by show w.heap.size ≤ w.heap.size + 1 + 1; omega) _).setCell (p := ⟨w.heap.size + 1 + 1, 5, none⟩) (by show w.heap.size ≤ w.heap.size + 1 + 1; omega) _
  have HB2 := Lib.hid hB2
  have HZ2 := Lib.hid (show ((w1.setCell ⟨w.heap.size + 1 + 1, 4, none⟩ (.int .i64 t.ty.kind)).setCell ⟨w.heap.size + 1 + 1, 5, none⟩ (.slice p1 t.ty.args.length c1)).heap.size = w1.heap.size by simp [World.setCell])
  have HC2 := Lib.hid (toT_any (C := C) (t := t.res) (v := .agg #[.int .i64 t.res.kind, .slice rp t.res.args.length rc]) ⟨_, rfl, HT.out.res.keep hB2⟩ n2)
  have L1 := Lib.hid hb1s
  clear q0 q1 q2 e2 st hB2 ho1 hb1 hb1s
  go_wp2_with fail
  refine HC2.out.mono ?_
  rintro e w2 ⟨v2, rfl, ⟨s2, rfl, ho2⟩, hb2⟩
  obtain ⟨p2, c2, rfl⟩ := ho2.form
  have hb2s := hb2.size
  rw [HZ2.out] at hb2 hb2s ho2
  have hl1 := L1.out
  have q0 := (hb2.block w.heap.size (by omega)).trans HQ0.out
  have q1 := (hb2.block (w.heap.size + 1) (by omega)).trans HQ1.out
  have q2 := (hb2.block (w.heap.size + 1 + 1) (by omega)).trans HQ2.out
  clear x6 x7 x8 y4 y5 yz
  obtain ⟨_, _, _, _, _, _, _, _, x8⟩ := Bx9.of q0
  have y6 : w2.cell? ⟨w.heap.size + 1 + 1, 6, none⟩ = some (.int .i64 0) := cell_of_blk q2 6
  have y7 : w2.cell? ⟨w.heap.size + 1 + 1, 7, none⟩ = some (.slice none 0 0) := cell_of_blk q2 7
  have yz := unfrozen_of_blk q2
  have e2 := heap_setCell_same _ _ 7 _ _ (.slice p2 t.res.args.length c2) (heap_setCell_same w2 _ 6 _ _ (.int .i64 t.res.kind) q2)
  have st : ∀ F : Nat → Prop, ¬ F (w.heap.size + 1 + 1) → Stays F w2 ((w2.setCell ⟨w.heap.size + 1 + 1, 6, none⟩ (.int .i64 t.res.kind)).setCell ⟨w.heap.size + 1 + 1, 7, none⟩ (.slice p2 t.res.args.length c2)) := fun F hF => (setCell_stays _ _ _ _ F hF).trans (setCell_stays _ _ _ _ F hF)
  have HS2 := Lib.hid (st (fun z => z ≠ w.heap.size + 1 + 1) (by simp))
  have HO12 := Lib.hid ((HO1.out.stays (.of_below (HZ2.out.symm ▸ hb2))).stays (st _ (by omega)))
  have HO2 := Lib.hid (ho2.stays (st _ (by omega)))
  have HP0 := Lib.hid ((HS2.out.2 w.heap.size (by omega) (by omega)).trans q0)
  have HP1 := Lib.hid ((HS2.out.2 (w.heap.size + 1) (by omega) (by omega)).trans q1)
  have HP2 := Lib.hid e2
  have hB3 : Below w.heap.size w ((w2.setCell ⟨w.heap.size + 1 + 1, 6, none⟩ (.int .i64 t.res.kind)).setCell ⟨w.heap.size + 1 + 1, 7, none⟩ (.slice p2 t.res.args.length c2)) :=
    ((HB2.out.trans (hb2.mono (by omega))).setCell (p := ⟨w.heap.size + 1 + 1, 6, none⟩) (by show w.heap.size ≤ w.heap.size + 1 + 1; omega) _).setCell (p := ⟨w.heap.size + 1 + 1, 7, none⟩) (by show w.heap.size ≤ w.heap.size + 1 + 1; omega) _
  have HB3 := Lib.hid hB3
  have HZ3 := Lib.hid (show ((w2.setCell ⟨w.heap.size + 1 + 1, 6, none⟩ (.int .i64 t.res.kind)).setCell ⟨w.heap.size + 1 + 1, 7, none⟩ (.slice p2 t.res.args.length c2)).heap.size = w2.heap.size by simp [World.setCell])
  have HC3 := Lib.hid (HH.out _ hB3)
  have L2 := Lib.hid hb2s
  clear q0 q1 q2 e2 st hB3 ho2 hb2 hb2s hl1
  go_wp2_with fail
  refine HC3.out.mono ?_
  rintro e w3 ⟨v3, rfl, ho3, hb3⟩
  obtain ⟨p3, c3, rfl⟩ := ho3.form
  have hb3s := hb3.size
  rw [HZ3.out] at hb3 hb3s ho3
  have hl1 := L1.out
  have hl2 := L2.out
  have q1 := (hb3.block (w.heap.size + 1) (by omega)).trans HP1.out
  have q2 := (hb3.block (w.heap.size + 1 + 1) (by omega)).trans HP2.out
  clear x8 y6 y7 yz
  have y0 : w3.cell? ⟨w.heap.size + 1 + 1, 0, none⟩ = some (.int .i64 t.kind) := cell_of_blk q2 0
  have y1 : w3.cell? ⟨w.heap.size + 1 + 1, 1, none⟩ = some (.string t.name) := cell_of_blk q2 1
  have y2 : w3.cell? ⟨w.heap.size + 1 + 1, 2, none⟩ = some (.string t.other) := cell_of_blk q2 2
  have y3 : w3.cell? ⟨w.heap.size + 1 + 1, 3, none⟩ = some (.int .i64 t.n) := cell_of_blk q2 3
  have y4 : w3.cell? ⟨w.heap.size + 1 + 1, 4, none⟩ = some (.int .i64 t.ty.kind) := cell_of_blk q2 4
  have y5 : w3.cell? ⟨w.heap.size + 1 + 1, 5, none⟩ = some (.slice p1 t.ty.args.length c1) := cell_of_blk q2 5
  have y6 : w3.cell? ⟨w.heap.size + 1 + 1, 6, none⟩ = some (.int .i64 t.res.kind) := cell_of_blk q2 6
  have y7 : w3.cell? ⟨w.heap.size + 1 + 1, 7, none⟩ = some (.slice p2 t.res.args.length c2) := cell_of_blk q2 7
  have y8 : w3.cell? ⟨w.heap.size + 1 + 1, 8, none⟩ = some (.slice none 0 0) := cell_of_blk q2 8
  have yz := unfrozen_of_blk q2
  have z0 : w3.cell? ⟨w.heap.size + 1, 0, none⟩ = some (.int .i64 0) := cell_of_blk q1 0
  have z1 : w3.cell? ⟨w.heap.size + 1, 1, none⟩ = some (.string ⟨#[]⟩) := cell_of_blk q1 1
  have z2 : w3.cell? ⟨w.heap.size + 1, 2, none⟩ = some (.string ⟨#[]⟩) := cell_of_blk q1 2
  have z3 : w3.cell? ⟨w.heap.size + 1, 3, none⟩ = some (.int .i64 0) := cell_of_blk q1 3
  have z4 : w3.cell? ⟨w.heap.size + 1, 4, none⟩ = some (.int .i64 0) := cell_of_blk q1 4
  have z5 : w3.cell? ⟨w.heap.size + 1, 5, none⟩ = some (.slice none 0 0) := cell_of_blk q1 5
  have z6 : w3.cell? ⟨w.heap.size + 1, 6, none⟩ = some (.int .i64 0) := cell_of_blk q1 6
  have z7 : w3.cell? ⟨w.heap.size + 1, 7, none⟩ = some (.slice none 0 0) := cell_of_blk q1 7
  have z8 : w3.cell? ⟨w.heap.size + 1, 8, none⟩ = some (.slice none 0 0) := cell_of_blk q1 8
  have zz := unfrozen_of_blk q1
  have hb3' : Below _ _ w3 := HZ3.out.symm ▸ hb3
  have HFIN := Lib.hid (OSt9 (t := t) (F := fun g => w.heap.size + 3 ≤ g ∧ g < w3.heap.size) (HO12.out.keep hb3') (HO2.out.keep hb3') ho3 (fun z hz => by omega) (fun z hz => by omega) (fun z hz => by omega))
  have HB4 := Lib.hid (HB3.out.trans (hb3'.mono HB3.out.size))
  clear q1 q2 ho3 hb3 hb3' hb3s hl1 hl2
  go_wp2_with fail
  refine bodyPost_ret (v := tmV t p1 c1 p2 c2 p3 c3) ?_ rfl ?_
  · rw [results_cell1 rfl]
    go_simp
  · refine ⟨_, rfl, ⟨p1, c1, p2, c2, p3, c3, rfl, OSt.mono (OSt.stays HFIN.out ?_) (fun z hz => ⟨by omega, ?_⟩)⟩, ?_⟩
    · iterate 10 (refine Stays.trans ?_ (setCell_stays _ _ _ _ _ (by omega)))
      exact Stays.refl _ _
    · have := hz.2
      simp [World.setCell]
      omega
    iterate 10 (refine Below.setCell ?_ (by dsimp only; omega) _)
    exact HB4.out
end Go.Proofs.YtnciibngcaajgaaDoor
/- TmCopy2: The contract of the laws' toTermS and toTerm, at every term. -/
namespace Go.Proofs.YtnciibngcaajgaaDoor
open Go Go.RowKit

theorem setN9 (w : World) (b o : Nat) (v0 v1 v2 v3 v4 v5 v6 v7 v8 : Value) : setN w b o [v0, v1, v2, v3, v4, v5, v6, v7, v8] =
    ((((((((w.setCell ⟨b, o, none⟩ v0).setCell ⟨b, o + 1, none⟩ v1).setCell ⟨b, o + 2, none⟩ v2).setCell ⟨b, o + 3, none⟩ v3).setCell ⟨b, o + 4, none⟩ v4).setCell ⟨b, o + 5, none⟩ v5).setCell ⟨b, o + 6, none⟩ v6).setCell ⟨b, o + 7, none⟩ v7).setCell ⟨b, o + 8, none⟩ v8 := rfl

set_option maxRecDepth 100000 in
set_option maxHeartbeats 2000000 in
theorem toMS_any {w0 : World} {C : Nat → Prop} {ts : List Tm} {v : Value} (h : DM w0 C (tmD ts) v) : ∀ (w : World), Stays C w0 w → wtS ts ≤ 1048576 → Calls Tryd.prog 45 #[v] w (NewMS ts w) := by
  obtain ⟨i0, hi, hz0, hz1, hz2⟩ := info_parts infoTm
  refine tm_ind (motive := fun ts v => ∀ (w : World), Stays C w0 w → wtS ts ≤ 1048576 → Calls Tryd.prog 45 #[v] w (NewMS ts w)) ?_ _ (Nat.le_refl _) h
  intro ts q d hlen H w hst hn
  have hge := wtS_ge ts
  have HH := Lib.hid H
  have HST := Lib.hid hst
  clear H hst
  go_enter Tryd.func45, Tryd.ntmps45
  go_wp2_with (at_make; refine wpList_make_full _ rfl _ _ 27 rfl w.heap.size 29 i0 _ 9 Tryd.underlying27 hi hz0 hz1 .i64 .i64 _ _ ts.length rfl rfl rfl rfl ?c1 ?c2 ?c3 ?_)
  case c1 => rw [hz2]; omega
  case c2 => unfold maxLen; omega
  case c3 => exact Nat.le_refl _
  intro w1 hown0 hg
  have hb1 : Below w.heap.size w w1 := (Below.refl _ _).grown hg (Nat.le_refl _) (fun k h => by cases h)
  have HO := Lib.hid (FilD.start (ds := flatTm ts) hown0)
  clear hown0 hg
  go_wp2_with fail
  go_loopw [4] (fun i wr => ∃ k : Nat, k ≤ ts.length ∧ i = .int .i64 k ∧ FilD wr w.heap.size 29 9 ts.length ts.length (flatTm ts) k ∧ Below w.heap.size w wr) (fun i _ => ts.length - (intOf i).toNat)
  case atStart => exact ⟨0, Nat.zero_le _, rfl, HO.out, hb1⟩
  case round =>
    obtain ⟨k, hk, rfl, hfill, hbr⟩ := hrel
    have HFI := Lib.hid hfill
    have HB := Lib.hid hbr
    have HSR := Lib.hid (HST.out.trans (Stays.of_below (C := C) hbr))
    clear hb1 hfill hbr
    by_cases hlk : k < ts.length
    · obtain ⟨b, o, tp, tc, rp, rc, p, c, rfl, hC, hb, h9, hT, hI⟩ := HH.out k hlk
      obtain ⟨g0, g1, g2, g3, g4, g5, g6, g7, g8⟩ := h9 wr HSR.out
      have hwk := wtS_at ts k hlk
      have hwe := ts[k].wt_eq
      have HC := Lib.hid (toM_of (C := C) (hT.stays HSR.out) (by omega) (fun w' hw' => hI w' (HSR.out.trans (.of_below hw')) (by omega)))
      have i0 : (0 : Int) ≤ (k : Int) := Int.natCast_nonneg _
      have i1 : (k : Int) < (ts.length : Int) := by omega
      clear hC hb h9 hT hI hwk hwe
      go_wp2_with fail
      refine HC.out.mono ?_
      rintro e w2 ⟨v, rfl, ⟨tp2, tc2, rp2, rc2, p2, c2, rfl, hos⟩, hb2⟩
      obtain ⟨hrow, hgo⟩ := HFI.out.next hb2 hlk ts[k].ds_len (fun i hi => flatTm_at ts k i hlk hi) hos
      obtain ⟨q0, x0⟩ := hrow 0 (by omega)
      obtain ⟨q1, x1⟩ := hrow 1 (by omega)
      obtain ⟨q2, x2⟩ := hrow 2 (by omega)
      obtain ⟨q3, x3⟩ := hrow 3 (by omega)
      obtain ⟨q4, x4⟩ := hrow 4 (by omega)
      obtain ⟨q5, x5⟩ := hrow 5 (by omega)
      obtain ⟨q6, x6⟩ := hrow 6 (by omega)
      obtain ⟨q7, x7⟩ := hrow 7 (by omega)
      obtain ⟨q8, x8⟩ := hrow 8 (by omega)
      rw [Nat.add_zero] at x0
      have z1 := fun i => HFI.out.frz hb2 i
      have hb3 := (HB.out.trans (hb2.mono HB.out.size)).trans (setN_below (tmL ts[k] tp2 tc2 rp2 rc2 p2 c2) w.heap.size w2 w.heap.size (k * 9) (Nat.le_refl _))
      rw [setN9] at hgo hb3
      have HN := Lib.hid hgo
      have HB2 := Lib.hid hb3
      clear hgo hos hb2 hb3 hrow g0 g1 g2 g3 g4 g5 g6 g7 g8
      go_wp2_with fail
      go_roundw
      case rel => exact ⟨k + 1, by omega, by go_num, HN.out, HB2.out⟩
      case measure => simp [intOf]; omega
    · obtain rfl : k = ts.length := by omega
      go_wp2_with fail
      go_ret
      exact ⟨_, rfl, HFI.out.full (flatTm_len ts) (by unfold maxLen; omega), HB.out⟩
/-- THE LAWS' toTerm, AT EVERY TERM. -/
theorem toM_any {C : Nat → Prop} {t : Tm} {v : Value} {w : World} (h : TM w C t v) (hn : t.wt ≤ 1048576) : Calls Tryd.prog 21 #[v] w (NewM t w) := by
  obtain ⟨tp, tc, rp, rc, p, c, rfl, hT⟩ := h
  have hwe := t.wt_eq
  exact toM_of hT hn (fun w' hb => toMS_any hT.args w' (.of_below hb) (by omega))
#print axioms toM_any
end Go.Proofs.YtnciibngcaajgaaDoor
/- SpecTy: The contracts of the model's SizeOfType, DepthOfType, l3Form, l3Left, l3Has: what they answer at a type in memory. -/
namespace Go.Proofs.YtnciibngcaajgaaDoor
open Go Go.RowKit

end Go.Proofs.YtnciibngcaajgaaDoor
/- SpecTy2: The contracts of the model's DepthOfType, l3Form, l3Left, l3Has: what they answer at a type in memory. -/
namespace Go.Proofs.YtnciibngcaajgaaDoor
open Go Go.RowKit


set_option maxRecDepth 100000 in
theorem max_any (a b : Int) (w : World) : Calls Tryd.prog 60 #[.int .i64 a, .int .i64 b] w fun e w' => e = .returned (.int .i64 (max a b)) ∧ w' = w := by
  go_enter Tryd.func60, Tryd.ntmps60
  by_cases h : b < a
  · go_wp2
    go_ret
    exact ⟨congrArg (fun z => Ending.returned (.int .i64 z)) (Int.max_eq_left (by omega)).symm, rfl⟩
  · go_wp2
    go_ret
    exact ⟨congrArg (fun z => Ending.returned (.int .i64 z)) (Int.max_eq_right (by omega)).symm, rfl⟩

theorem form_false {q : Int} {ts : List Ty} {k : Nat} (h : k < ts.length) (hf : ts[k].form = false) : (Ty.mk q ts).form = false := by
  have e : formS ts = false := by
    rw [← List.take_append_drop (k + 1) ts, formS_append, take_next h, formS_append]
    simp [formS, hf]
  simp [Ty.form, e]
theorem has_true {q u : Int} {ts : List Ty} {k : Nat} (h : k < ts.length) (hf : ts[k].has u = true) : (Ty.mk q ts).has u = true := by
  have e : hasS u ts = true := by
    rw [← List.take_append_drop (k + 1) ts, hasS_append, take_next h, hasS_append]
    simp [hasS, hf]
  simp [Ty.has, e]
theorem form_kind {q : Int} {ts : List Ty} {b : Bool} (h : formS ts = true) (hb : b = (if q = 1 ∨ q = 2 then ts.length == 0 else if q = 3 then ts.length == 2 else q == 4 && ts.length == 1)) : b = (Ty.mk q ts).form := by
  rw [Ty.form, h, hb, Bool.true_and]
theorem beq_0 (n : Nat) : ((n : Int) == 0) = (n == 0) := by rw [Bool.eq_iff_iff]; simp only [beq_iff_eq]; omega
theorem beq_decide (a b : Nat) : (a == b) = decide (a = b) := by rw [Bool.eq_iff_iff]; simp
theorem beq_1 (n : Nat) : ((n : Int) == 1) = (n == 1) := by rw [Bool.eq_iff_iff]; simp only [beq_iff_eq]; omega
theorem beq_2 (n : Nat) : ((n : Int) == 2) = (n == 2) := by rw [Bool.eq_iff_iff]; simp only [beq_iff_eq]; omega

/-- What is left of a bound behind n nodes; below 0: there were more. -/
def LeftEnds (left : Int) (n : Nat) (r : Int) : Prop := (0 ≤ r ∧ r + n = left) ∨ (r < 0 ∧ -1 ≤ r ∧ left < n) ∨ (r = -1 ∧ left = -1)
theorem LeftEnds.range {left : Int} {n : Nat} {r : Int} (h : LeftEnds left n r) (hl : -1 ≤ left) : -1 ≤ r ∧ r ≤ left := by
  unfold LeftEnds at h
  omega
theorem leftEnds_start {left : Int} (h : 0 ≤ left) : LeftEnds (left - 1) (nodesS ([] : List Ty)) (left - 1) := by
  unfold LeftEnds; simp only [nodesS]; omega
theorem LeftEnds.stop {left L : Int} {ts : List Ty} {k : Nat} (h : LeftEnds (left - 1) (nodesS (ts.take k)) L) (hn : L < 0) (_ : nodesS (ts.take (k + 1)) ≤ nodesS ts) : LeftEnds left (1 + nodesS ts) L := by
  have := nodesS_take_le ts k
  unfold LeftEnds at *; omega
theorem LeftEnds.next {left L r : Int} {n m : Nat} (h : LeftEnds (left - 1) n L) (hr : LeftEnds L m r) (h0 : 0 ≤ L) : LeftEnds (left - 1) (n + m) r := by
  unfold LeftEnds at *; omega
theorem LeftEnds.full {left L : Int} {n : Nat} (h : LeftEnds (left - 1) n L) : LeftEnds left (1 + n) L := by
  unfold LeftEnds at *; omega

set_option maxRecDepth 100000 in
set_option maxHeartbeats 1000000 in
theorem depth_any {w0 : World} {C : Nat → Prop} {ts : List Ty} {v : Value} (h : TS w0 C ts v) : ∀ (w : World) (q : Int), Stays C w0 w → nodesS ts ≤ 1048576 → Calls Tryd.prog 81 #[.agg #[.int .i64 q, v]] w (IntRet (fun r => r = ((1 + depthS ts : Nat) : Int)) w) := by
  refine TS.ind (motive := fun ts v => ∀ (w : World) (q : Int), Stays C w0 w → nodesS ts ≤ 1048576 → Calls Tryd.prog 81 #[.agg #[.int .i64 q, v]] w (IntRet (fun r => r = ((1 + depthS ts : Nat) : Int)) w)) ?_ h
  intro ts p c hl H w q hst hn
  have HH := Lib.hid H
  have HST := Lib.hid hst
  have hlen := nodesS_ge ts
  clear H hst
  go_enter Tryd.func81, Tryd.ntmps81
  go_wp2_with fail
  go_loopw [3, 4] (fun n i wr => ∃ (k : Nat), k ≤ ts.length ∧ i = .int .i64 k ∧ n = .int .i64 ((depthS (ts.take k) : Nat) : Int) ∧ Below (w.alloc (.cells #[.int .i64 q, .slice p ts.length c] 26)).heap.size (w.alloc (.cells #[.int .i64 q, .slice p ts.length c] 26)) wr) (fun _ i _ => ts.length - (intOf i).toNat)
  case atStart => exact ⟨0, Nat.zero_le _, rfl, by simp [depthS], Below.refl _ _⟩
  case round =>
    obtain ⟨k, hk, rfl, rfl, hbr⟩ := hrel
    have HB := Lib.hid hbr
    obtain ⟨d0, d1⟩ := box2 hbr
    clear hbr
    by_cases hlk : k < ts.length
    · obtain ⟨b, o, p', c', rfl, hcs, hT, hI⟩ := HH.out k _ (List.getElem?_eq_getElem hlk)
      have hsr := HST.out.trans (Stays.of_below (C := C) (below_box HB.out))
      obtain ⟨c1, c2⟩ := hcs wr hsr
      have n1 := nodesS_take_next ts k hlk
      have n2 := nodesS_take_le ts (k + 1)
      have n3 := ts[k].nodes_eq
      have m1 := depthS_at ts k hlk
      have m2 := depthS_take_next ts k hlk
      have m3 := depth_at ts[k]
      have b1 : depthS (ts.take k) ≤ 1048576 := by omega
      have b2 : 1 + depthS ts[k].args ≤ 1048576 := by omega
      have HM2 := Lib.hid m2
      have HM3 := Lib.hid m3
      clear m1 m2 m3
      have HC := Lib.hid (hI wr ts[k].kind hsr (by omega))
      have HN1 := Lib.hid n1
      have HN2 := Lib.hid n2
      have HN3 := Lib.hid n3
      clear hcs hT hI hsr n1 n2 n3
      go_wp2_with fail
      refine HC.out.mono ?_
      rintro e w1 ⟨r, hr, rfl, hb1⟩
      have HB1 := Lib.hid (HB.out.trans (hb1.mono HB.out.size))
      clear hb1
      subst hr
      go_wp2_with fail
      refine (max_any _ _ _).mono ?_
      rintro e w2 ⟨rfl, rfl⟩
      go_wp2_with fail
      go_roundw
      case rel => exact ⟨k + 1, by omega, by go_num, by have h1 := HM2.out; have h2 := HM3.out; rw [h1, h2]; go_num, HB1.out⟩
      case measure => simp [intOf]; omega
    · obtain rfl : k = ts.length := by omega
      rw [List.take_length]
      have b3 := depthS_nodes ts
      go_wp2_with fail
      go_ret
      exact ⟨_, rfl, by go_num, below_box HB.out⟩

set_option maxRecDepth 100000 in
set_option maxHeartbeats 1000000 in
theorem form_any {w0 : World} {C : Nat → Prop} {ts : List Ty} {v : Value} (h : TS w0 C ts v) : ∀ (w : World) (q : Int), Stays C w0 w → nodesS ts ≤ 1048576 → Calls Tryd.prog 82 #[.agg #[.int .i64 q, v]] w (BoolRet (fun r => r = (Ty.mk q ts).form) w) := by
  refine TS.ind (motive := fun ts v => ∀ (w : World) (q : Int), Stays C w0 w → nodesS ts ≤ 1048576 → Calls Tryd.prog 82 #[.agg #[.int .i64 q, v]] w (BoolRet (fun r => r = (Ty.mk q ts).form) w)) ?_ h
  intro ts p c hl H w q hst hn
  have HH := Lib.hid H
  have HST := Lib.hid hst
  have hlen := nodesS_ge ts
  clear H hst
  go_enter Tryd.func82, Tryd.ntmps82
  go_wp2_with fail
  go_loopw [3] (fun i wr => ∃ (k : Nat), k ≤ ts.length ∧ i = .int .i64 k ∧ formS (ts.take k) = true ∧ Below (w.alloc (.cells #[.int .i64 q, .slice p ts.length c] 26)).heap.size (w.alloc (.cells #[.int .i64 q, .slice p ts.length c] 26)) wr) (fun i _ => ts.length - (intOf i).toNat)
  case atStart => exact ⟨0, Nat.zero_le _, rfl, by simp [formS], Below.refl _ _⟩
  case round =>
    obtain ⟨k, hk, rfl, hfm, hbr⟩ := hrel
    have HB := Lib.hid hbr
    obtain ⟨d0, d1⟩ := box2 hbr
    clear hbr
    by_cases hlk : k < ts.length
    · obtain ⟨b, o, p', c', rfl, hcs, hT, hI⟩ := HH.out k _ (List.getElem?_eq_getElem hlk)
      have hsr := HST.out.trans (Stays.of_below (C := C) (below_box HB.out))
      obtain ⟨c1, c2⟩ := hcs wr hsr
      have n1 := nodesS_take_next ts k hlk
      have n2 := nodesS_take_le ts (k + 1)
      have n3 := ts[k].nodes_eq
      have HM := Lib.hid hfm
      clear hfm
      have HC := Lib.hid (hI wr ts[k].kind hsr (by omega))
      have HN1 := Lib.hid n1
      have HN2 := Lib.hid n2
      have HN3 := Lib.hid n3
      clear hcs hT hI hsr n1 n2 n3
      go_wp2_with fail
      refine HC.out.mono ?_
      rintro e w1 ⟨r, hr, rfl, hb1⟩
      have HB1 := Lib.hid (HB.out.trans (hb1.mono HB.out.size))
      clear hb1
      have HR := Lib.hid hr
      clear hr
      cases r with
      | true =>
        go_wp2_with fail
        go_roundw
        case rel => exact ⟨k + 1, by omega, by go_num, by rw [take_next hlk, formS_append, HM.out]; simpa [formS, ← Ty.eta] using HR.out.symm, HB1.out⟩
        case measure => simp [intOf]; omega
      | false =>
        go_wp2_with fail
        go_ret
        exact ⟨false, (form_false hlk (by rw [Ty.eta ts[k]]; exact HR.out.symm)).symm, rfl, below_box HB1.out⟩
    · obtain rfl : k = ts.length := by omega
      rw [List.take_length] at hfm
      have HM := Lib.hid hfm
      clear hfm
      by_cases q1 : q = 1
      · subst q1
        go_wp2_with fail
        go_ret
        exact ⟨_, form_kind HM.out (by simp [beq_0]), rfl, below_box HB.out⟩
      by_cases q2 : q = 2
      · subst q2
        go_wp2_with fail
        go_ret
        exact ⟨_, form_kind HM.out (by simp [beq_0]), rfl, below_box HB.out⟩
      by_cases q3 : q = 3
      · subst q3
        go_wp2_with fail
        go_ret
        exact ⟨_, form_kind HM.out (by simp [beq_2]), rfl, below_box HB.out⟩
      by_cases q4 : q = 4
      · subst q4
        go_wp2_with fail
        go_ret
        exact ⟨_, form_kind HM.out (by simp [beq_1]), rfl, below_box HB.out⟩
      go_wp2_with fail
      go_ret
      exact ⟨_, form_kind HM.out (by simp [q1, q2, q3, q4]), rfl, below_box HB.out⟩

set_option maxRecDepth 100000 in
set_option maxHeartbeats 1000000 in
theorem left_any {w0 : World} {C : Nat → Prop} {ts : List Ty} {v : Value} (h : TS w0 C ts v) : ∀ (w : World) (q : Int) (left : Int), Stays C w0 w → nodesS ts ≤ 1048576 → 0 ≤ left → left ≤ 1048576 → Calls Tryd.prog 80 #[.agg #[.int .i64 q, v], .int .i64 left] w (IntRet (LeftEnds left (1 + nodesS ts)) w) := by
  refine TS.ind (motive := fun ts v => ∀ (w : World) (q : Int) (left : Int), Stays C w0 w → nodesS ts ≤ 1048576 → 0 ≤ left → left ≤ 1048576 → Calls Tryd.prog 80 #[.agg #[.int .i64 q, v], .int .i64 left] w (IntRet (LeftEnds left (1 + nodesS ts)) w)) ?_ h
  intro ts p c hl H w q left hst hn h0 hL
  have HH := Lib.hid H
  have HST := Lib.hid hst
  have hlen := nodesS_ge ts
  clear H hst
  go_enter Tryd.func80, Tryd.ntmps80
  go_wp2_with fail
  go_loopw [1, 5] (fun l i wr => ∃ (k : Nat) (L : Int), k ≤ ts.length ∧ i = .int .i64 k ∧ l = .int .i64 L ∧ LeftEnds (left - 1) (nodesS (ts.take k)) L ∧ Below (w.alloc (.cells #[.int .i64 q, .slice p ts.length c] 26)).heap.size (w.alloc (.cells #[.int .i64 q, .slice p ts.length c] 26)) wr) (fun _ i _ => ts.length - (intOf i).toNat)
  case atStart => exact ⟨0, _, Nat.zero_le _, rfl, rfl, leftEnds_start h0, Below.refl _ _⟩
  case round =>
    obtain ⟨k, L, hk, rfl, rfl, hle, hbr⟩ := hrel
    have HB := Lib.hid hbr
    obtain ⟨d0, d1⟩ := box2 hbr
    clear hbr
    by_cases hlk : k < ts.length
    · obtain ⟨b, o, p', c', rfl, hcs, hT, hI⟩ := HH.out k _ (List.getElem?_eq_getElem hlk)
      have hsr := HST.out.trans (Stays.of_below (C := C) (below_box HB.out))
      obtain ⟨c1, c2⟩ := hcs wr hsr
      have n1 := nodesS_take_next ts k hlk
      have n2 := nodesS_take_le ts (k + 1)
      have n3 := ts[k].nodes_eq
      have HM := Lib.hid hle
      have hLr := hle.range (by omega)
      clear hle
      by_cases hneg : L < 0
      · clear hcs hT hI hsr n1 n3
        go_wp2_with fail
        go_ret
        exact ⟨_, HM.out.stop hneg n2, rfl, below_box HB.out⟩
      have HC := Lib.hid (hI wr ts[k].kind L hsr (by omega) (by omega) (by omega))
      have HN1 := Lib.hid n1
      have HN2 := Lib.hid n2
      have HN3 := Lib.hid n3
      clear hcs hT hI hsr n1 n2 n3
      go_wp2_with fail
      refine HC.out.mono ?_
      rintro e w1 ⟨r, hr, rfl, hb1⟩
      have HB1 := Lib.hid (HB.out.trans (hb1.mono HB.out.size))
      clear hb1
      have hr2 := hr.range (by omega)
      have HR := Lib.hid hr
      clear hr
      go_wp2_with fail
      go_roundw
      case rel => exact ⟨k + 1, r, by omega, by go_num, rfl, by rw [HN1.out, HN3.out]; exact HM.out.next HR.out (by omega), HB1.out⟩
      case measure => simp [intOf]; omega
    · obtain rfl : k = ts.length := by omega
      rw [List.take_length] at hle
      have HM := Lib.hid hle
      have hLr := hle.range (by omega)
      clear hle
      go_wp2_with fail
      go_ret
      exact ⟨_, HM.out.full, rfl, below_box HB.out⟩

end Go.Proofs.YtnciibngcaajgaaDoor
/- TmSpec: The contracts of the model's SizeOf, DepthOf, l5Left: what they answer at a term in memory. -/
namespace Go.Proofs.YtnciibngcaajgaaDoor
open Go Go.RowKit

mutual
def Tm.depth : Tm → Nat
  | .mk _ _ _ _ _ _ ts => 1 + depthM ts
def depthM : List Tm → Nat
  | [] => 0
  | t :: ts => max t.depth (depthM ts)
end
theorem Tm.depth_eq (t : Tm) : t.depth = 1 + depthM t.args := by cases t; simp [Tm.depth, Tm.args]
theorem depthM_append (a b : List Tm) : depthM (a ++ b) = max (depthM a) (depthM b) := by
  induction a with
  | nil => simp [depthM]
  | cons x a ih => simp only [List.cons_append, depthM, ih]; omega
theorem depthM_take (ts : List Tm) (k : Nat) (h : k < ts.length) : depthM (ts.take (k + 1)) = max (depthM (ts.take k)) ts[k].depth := by
  rw [tm_take_next h, depthM_append]; simp [depthM]
mutual
theorem depthM_nodes : ∀ ts : List Tm, depthM ts ≤ nodesM ts
  | [] => Nat.le_refl _
  | t :: ts => by
    have h1 := Tm.depth_nodes t
    have h2 := depthM_nodes ts
    simp only [depthM, nodesM]
    omega
theorem Tm.depth_nodes : ∀ t : Tm, t.depth ≤ t.nodes
  | .mk k a b n t r ts => by
    have := depthM_nodes ts
    simp only [Tm.depth, Tm.nodes]
    omega
end
theorem leftM_stop {left L : Int} {a n : Nat} (h : LeftEnds (left - 1) a L) (hn : L < 0) (ha : a ≤ n) : LeftEnds left (1 + n) L := by
  unfold LeftEnds at *; omega
theorem box_rest {w w' : World} {A : Array Value} {T : TypeId} (h : Below (w.alloc (.cells A T)).heap.size (w.alloc (.cells A T)) w') : Below w.heap.size w w' :=
  (al_below w _).trans (h.mono (by simp))


set_option maxRecDepth 100000 in
set_option maxHeartbeats 1000000 in
theorem depthM_any {C : Nat → Prop} : ∀ (m : Nat) {t : Tm} {tp : Option Addr} {tc : Nat} {rp : Option Addr} {rc : Nat} {p : Option Addr} {c : Nat} (w : World), t.nodes ≤ m → TM' w C t tp tc rp rc p c → t.wt ≤ 1048576 → Calls Tryd.prog 35 #[tmV t tp tc rp rc p c] w (IntRet (fun r => r = ((t.depth : Nat) : Int)) w)
  | 0, t, tp, tc, rp, rc, p, c, w, hm, hT, hn => by rw [t.nodes_eq] at hm; omega
  | m + 1, t, tp, tc, rp, rc, p, c, w, hm, hT, hn => by
    have HT := Lib.hid hT
    have HX0 := Lib.hid (Bx9.new w t tp tc rp rc p c 29)
    have HB0 := Lib.hid (al_below w (.cells (tmC t tp tc rp rc p c) 29))
    have hne := t.nodes_eq
    have hwe := t.wt_eq
    have hlen := wtS_ge t.args
    have hnw := nodesM_wt t.args
    have HM := Lib.hid hm
    have HNE := Lib.hid hne
    have hwa : wtS t.args ≤ 1048576 := by omega
    clear hT hne hwe hm
    go_enter Tryd.func35, Tryd.ntmps35
    go_wp2_with fail
    go_loopw [3, 4] (fun n i wr => ∃ (k : Nat), k ≤ t.args.length ∧ i = .int .i64 k ∧ n = .int .i64 ((depthM (t.args.take k) : Nat) : Int) ∧ Below (w.alloc (.cells (tmC t tp tc rp rc p c) 29)).heap.size (w.alloc (.cells (tmC t tp tc rp rc p c) 29)) wr) (fun _ i _ => t.args.length - (intOf i).toNat)
    case atStart => exact ⟨0, Nat.zero_le _, rfl, by simp [depthM], Below.refl _ _⟩
    case round =>
      obtain ⟨k, hk, rfl, rfl, hbr⟩ := hrel
      have HBR := Lib.hid hbr
      have HB := Lib.hid (HB0.out.trans (hbr.mono HB0.out.size))
      obtain ⟨_, _, _, _, _, _, _, _, d8⟩ := HX0.out.keep hbr
      clear hbr
      by_cases hlk : k < t.args.length
      · obtain ⟨b, o, tp2, tc2, rp2, rc2, p2, c2, rfl, hC, hb, h9, hP⟩ := tm_part HT.out.args k hlk
        obtain ⟨g0, g1, g2, g3, g4, g5, g6, g7, g8⟩ := h9 wr (.of_below HB.out)
        have n1 := nodesM_take t.args k hlk
        have n2 := nodesM_take_le t.args (k + 1)
        have n4 := nodesM_at t.args k hlk
        have n5 := wtS_at t.args k hlk
        have hmk : t.args[k].nodes ≤ m := by have := HM.out; have := HNE.out; omega
        have hi0 : (0 : Int) ≤ (k : Int) := Int.natCast_nonneg _
        have hi1 : (k : Int) < (t.args.length : Int) := by omega
        have m2 := depthM_take t.args k hlk
        have m3 := depthM_nodes (t.args.take k)
        have m4 := t.args[k].depth_nodes
        have b1 : depthM (t.args.take k) ≤ 1048576 := by omega
        have b2 : t.args[k].depth ≤ 1048577 := by omega
        have HM2 := Lib.hid m2
        clear m2 m3 m4
        have HC := Lib.hid (depthM_any m wr hmk (hP.stays (.of_below HB.out)) (by omega))
        have HN1 := Lib.hid n1
        have HN2 := Lib.hid n2
        clear hC hb h9 hP n1 n2 n4 n5 hmk
        go_wp2_with fail
        refine HC.out.mono ?_
        rintro e w1 ⟨r, hr, rfl, hb1⟩
        have HB1 := Lib.hid (HBR.out.trans (hb1.mono HBR.out.size))
        clear hb1
        subst hr
        go_wp2_with fail
        refine (max_any _ _ _).mono ?_
        rintro e w2 ⟨rfl, rfl⟩
        go_wp2_with fail
        go_roundw
        case rel => exact ⟨k + 1, by omega, by go_num, by have h1 := HM2.out; rw [h1]; go_num, HB1.out⟩
        case measure => simp [intOf]; omega
      · obtain rfl : k = t.args.length := by omega
        rw [List.take_length]
        have b3 := depthM_nodes t.args
        have HDE := Lib.hid t.depth_eq
        go_wp2_with fail
        go_ret
        exact ⟨_, by rw [HDE.out]; go_num, rfl, box_rest HBR.out⟩


set_option maxRecDepth 100000 in
set_option maxHeartbeats 1000000 in
theorem leftM_any {C : Nat → Prop} : ∀ (m : Nat) {t : Tm} {tp : Option Addr} {tc : Nat} {rp : Option Addr} {rc : Nat} {p : Option Addr} {c : Nat} (w : World) (left : Int), t.nodes ≤ m → TM' w C t tp tc rp rc p c → t.wt ≤ 1048576 → 0 ≤ left → left ≤ 1048576 → Calls Tryd.prog 34 #[tmV t tp tc rp rc p c, .int .i64 left] w (IntRet (LeftEnds left t.nodes) w)
  | 0, t, tp, tc, rp, rc, p, c, w, left, hm, hT, hn, h0, hL => by rw [t.nodes_eq] at hm; omega
  | m + 1, t, tp, tc, rp, rc, p, c, w, left, hm, hT, hn, h0, hL => by
    have HT := Lib.hid hT
    have HX0 := Lib.hid (Bx9.new w t tp tc rp rc p c 29)
    have HB0 := Lib.hid (al_below w (.cells (tmC t tp tc rp rc p c) 29))
    have hne := t.nodes_eq
    have hwe := t.wt_eq
    have hlen := wtS_ge t.args
    have hnw := nodesM_wt t.args
    have HM := Lib.hid hm
    have HNE := Lib.hid hne
    have hwa : wtS t.args ≤ 1048576 := by omega
    clear hT hne hwe hm
    go_enter Tryd.func34, Tryd.ntmps34
    go_wp2_with fail
    go_loopw [1, 5] (fun l i wr => ∃ (k : Nat) (L : Int), k ≤ t.args.length ∧ i = .int .i64 k ∧ l = .int .i64 L ∧ LeftEnds (left - 1) (nodesM (t.args.take k)) L ∧ Below (w.alloc (.cells (tmC t tp tc rp rc p c) 29)).heap.size (w.alloc (.cells (tmC t tp tc rp rc p c) 29)) wr) (fun _ i _ => t.args.length - (intOf i).toNat)
    case atStart => exact ⟨0, _, Nat.zero_le _, rfl, rfl, leftEnds_start h0, Below.refl _ _⟩
    case round =>
      obtain ⟨k, L, hk, rfl, rfl, hle, hbr⟩ := hrel
      have HBR := Lib.hid hbr
      have HB := Lib.hid (HB0.out.trans (hbr.mono HB0.out.size))
      obtain ⟨_, _, _, _, _, _, _, _, d8⟩ := HX0.out.keep hbr
      clear hbr
      by_cases hlk : k < t.args.length
      · obtain ⟨b, o, tp2, tc2, rp2, rc2, p2, c2, rfl, hC, hb, h9, hP⟩ := tm_part HT.out.args k hlk
        obtain ⟨g0, g1, g2, g3, g4, g5, g6, g7, g8⟩ := h9 wr (.of_below HB.out)
        have n1 := nodesM_take t.args k hlk
        have n2 := nodesM_take_le t.args (k + 1)
        have n4 := nodesM_at t.args k hlk
        have n5 := wtS_at t.args k hlk
        have hmk : t.args[k].nodes ≤ m := by have := HM.out; have := HNE.out; omega
        have hi0 : (0 : Int) ≤ (k : Int) := Int.natCast_nonneg _
        have hi1 : (k : Int) < (t.args.length : Int) := by omega
        have HLE := Lib.hid hle
        have hLr := hle.range (by omega)
        clear hle
        by_cases hneg : L < 0
        · clear hC hb h9 hP n1 n4 n5 hmk
          go_wp2_with fail
          go_ret
          exact ⟨_, by rw [HNE.out]; exact leftM_stop HLE.out hneg (nodesM_take_le t.args k), rfl, box_rest HBR.out⟩
        have HC := Lib.hid (leftM_any m wr L hmk (hP.stays (.of_below HB.out)) (by omega) (by omega) (by omega))
        have HN1 := Lib.hid n1
        have HN2 := Lib.hid n2
        clear hC hb h9 hP n1 n2 n4 n5 hmk
        go_wp2_with fail
        refine HC.out.mono ?_
        rintro e w1 ⟨r, hr, rfl, hb1⟩
        have HB1 := Lib.hid (HBR.out.trans (hb1.mono HBR.out.size))
        clear hb1
        have hr2 := hr.range (by omega)
        have HR := Lib.hid hr
        clear hr
        go_wp2_with fail
        go_roundw
        case rel => exact ⟨k + 1, r, by omega, by go_num, rfl, by rw [HN1.out]; exact HLE.out.next HR.out (by omega), HB1.out⟩
        case measure => simp [intOf]; omega
      · obtain rfl : k = t.args.length := by omega
        rw [List.take_length] at hle
        have HLE := Lib.hid hle
        have hLr := hle.range (by omega)
        clear hle
        go_wp2_with fail
        go_ret
        exact ⟨_, by rw [HNE.out]; exact HLE.out.full, rfl, box_rest HBR.out⟩

end Go.Proofs.YtnciibngcaajgaaDoor
/- Reduce: The contracts of Reduce, the program's and the model's: the remainder from 0 up to the modulus. -/
namespace Go.Proofs.YtnciibngcaajgaaDoor
open Go Go.RowKit

theorem tmod_cases (n : Int) : n.tmod 10007 = n % 10007 ∧ 0 ≤ n ∨ n.tmod 10007 = -((-n) % 10007) ∧ n < 0 := by
  by_cases h : 0 ≤ n
  · exact Or.inl ⟨Int.tmod_eq_emod_of_nonneg h, h⟩
  · refine Or.inr ⟨?_, by omega⟩
    have e : n = -(-n) := by omega
    rw [e, Int.neg_tmod, Int.tmod_eq_emod_of_nonneg (by omega)]
    simp
theorem red_I (n : Int) : (wrap64 (n.tmod 10007 + 10007)).tmod 10007 = n % 10007 := by
  have hw : wrap64 (n.tmod 10007 + 10007) = n.tmod 10007 + 10007 := by
    rcases tmod_cases n with ⟨h, _⟩ | ⟨h, _⟩ <;> · rw [h]; unfold wrap64; omega
  rw [hw, Int.tmod_eq_emod_of_nonneg (by rcases tmod_cases n with ⟨h, _⟩ | ⟨h, _⟩ <;> omega)]
  rcases tmod_cases n with ⟨h, _⟩ | ⟨h, _⟩ <;> omega
theorem red_S (n : Int) (h : n.tmod 10007 < 0) : wrap64 (n.tmod 10007 + 10007) = n % 10007 := by
  have hw : wrap64 (n.tmod 10007 + 10007) = n.tmod 10007 + 10007 := by
    rcases tmod_cases n with ⟨h, _⟩ | ⟨h, _⟩ <;> · rw [h]; unfold wrap64; omega
  rw [hw]
  rcases tmod_cases n with ⟨h, _⟩ | ⟨h, _⟩ <;> omega
theorem red_S0 (n : Int) (h : 0 ≤ n.tmod 10007) : n.tmod 10007 = n % 10007 := by
  rcases tmod_cases n with ⟨h, _⟩ | ⟨h, _⟩ <;> omega
theorem ret_int {a b : Int} (h : a = b) : Ending.returned (.int .i64 a) = Ending.returned (.int .i64 b) := by rw [h]

set_option maxHeartbeats 400000 in
theorem redI_any (n : Int) (w : World) :
    Calls Tryd.prog 57 #[.int .i64 n] w fun e w' => e = .returned (.int .i64 (n % 10007)) ∧ w' = w := by
  go_enter Tryd.func57, Tryd.ntmps57
  go_wp2
  go_ret
  exact ⟨ret_int (red_I n), rfl⟩

end Go.Proofs.YtnciibngcaajgaaDoor
/- Apply: The contracts of ApplyOp, the program's and the model's, and the walk of the law on it. -/
namespace Go.Proofs.YtnciibngcaajgaaDoor
open Go Go.RowKit

def bit (x : Bool) : Int := if x then 1 else 0
/-- What an operation gives at two numbers of the language. -/
def apOp (op : ByteArray) (a b : Int) : Int × Bool :=
  if op.toList == [43] then ((a + b) % 10007, true)
  else if op.toList == [45] then ((a - b) % 10007, true)
  else if op.toList == [42] then ((a * b) % 10007, true)
  else if op.toList == [61] then (bit (a == b), true)
  else if op.toList == [60] then (bit (decide (a < b)), true)
  else if op.toList == [38] then (bit (a == 1 && b == 1), true)
  else if op.toList == [124] then (bit (a == 1 || b == 1), true)
  else if op.toList == [33] then (bit (a == 0), true)
  else (0, false)
def ap (op : ByteArray) (a b : Int) : Int × Bool := if 0 ≤ a ∧ a < 10007 ∧ 0 ≤ b ∧ b < 10007 then apOp op a b else (0, false)
def pairOf (p : Int × Bool) : Value := .tuple #[.int .i64 p.1, .bool p.2]

theorem in_any (n lo hi : Int) (w : World) : Calls Tryd.prog 63 #[.int .i64 n, .int .i64 lo, .int .i64 hi] w fun e w' => e = .returned (.bool (decide (lo ≤ n ∧ n ≤ hi))) ∧ w' = w := by
  obtain ⟨r, hr⟩ : ∃ r, r = decide (lo ≤ n ∧ n ≤ hi) := ⟨_, rfl⟩
  rw [← hr]
  by_cases h : lo ≤ n
  · have e : decide (n ≤ hi) = r := by rw [hr]; simp [h]
    have t : decide (lo ≤ n) = true := by simpa using h
    have E := Lib.hid e
    clear e hr
    go_enter Tryd.func63, Tryd.ntmps63
    go_wp2
    go_ret
    exact ⟨by rw [← E.out]; rfl, rfl⟩
  · have e : false = r := by rw [hr]; simp [h]
    have t : decide (lo ≤ n) = false := by simpa using h
    subst e
    clear hr
    go_enter Tryd.func63, Tryd.ntmps63
    go_wp2
    go_ret
    exact ⟨rfl, rfl⟩

/-- One of the numbers of the language. -/
def Num (a : Int) : Prop := 0 ≤ a ∧ a < 10007
theorem redI_num (a : Int) (w : World) (h : Num a) : Calls Tryd.prog 57 #[.int .i64 a] w fun e w' => e = .returned (.int .i64 a) ∧ w' = w := by
  have h1 := redI_any a w
  rw [show a % 10007 = a from Int.emod_eq_of_lt h.1 h.2] at h1
  exact h1
theorem redI_not (a : Int) (w : World) (h : ¬ Num a) : Calls Tryd.prog 57 #[.int .i64 a] w fun e w' => ∃ r : Int, (a != r) = true ∧ e = .returned (.int .i64 r) ∧ w' = w :=
  (redI_any a w).mono fun e w' ⟨he, hw⟩ => ⟨a % 10007, by
    rw [bne_iff_ne]
    intro hc
    exact h ⟨by omega, by omega⟩, he, hw⟩

theorem mul_in {a b : Int} (ha : 0 ≤ a) (ha1 : a < 10007) (hb : 0 ≤ b) (hb1 : b < 10007) : wrap64 (a * b) = a * b := by
  have h1 := Int.mul_nonneg ha hb
  have h2 := Int.mul_le_mul (show a ≤ 10006 by omega) (show b ≤ 10006 by omega) hb (by decide)
  unfold wrap64
  omega

theorem in_num (a : Int) (w : World) (h : Num a) : Calls Tryd.prog 63 #[.int .i64 a, .int .i64 0, .int .i64 10006] w fun e w' => e = .returned (.bool true) ∧ w' = w := by
  have h1 := in_any a 0 10006 w
  rw [show decide (0 ≤ a ∧ a ≤ 10006) = true from decide_eq_true ⟨h.1, by have := h.2; omega⟩] at h1
  exact h1
theorem in_not (a : Int) (w : World) (h : ¬ Num a) : Calls Tryd.prog 63 #[.int .i64 a, .int .i64 0, .int .i64 10006] w fun e w' => e = .returned (.bool false) ∧ w' = w := by
  have h1 := in_any a 0 10006 w
  rw [show decide (0 ≤ a ∧ a ≤ 10006) = false from decide_eq_false (fun hc => h ⟨hc.1, by have := hc.2; omega⟩)] at h1
  exact h1

end Go.Proofs.YtnciibngcaajgaaDoor
