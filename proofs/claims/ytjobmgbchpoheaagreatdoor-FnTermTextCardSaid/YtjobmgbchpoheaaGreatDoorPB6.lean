/-
  Several texts of the proof in one (each says below what it holds): TypS2 Dat.
-/
import Derived.Test.YtjobmgbchpoheaaGreatDoorPB1
import Derived.Test.YtjobmgbchpoheaaGreatDoorPB2
import Derived.Test.YtjobmgbchpoheaaGreatDoorPB5
import Derived.Test.YtjobmgbchpoheaaGreatDoorPB3
namespace Go.Proofs.YtjobmgbchpoheaaGreatDoor
open Go Go.RowKit

theorem results_cs {fn : Func} {p q : Tmp} {ty : TypeId} (h : fn.results = #[.cell p ty, .tmp q]) (tmps : Array Value) (P : Program) (w : World) :
    (results fn tmps).run P w = ((asAddr (tmps.getD p undef)).run P w).andThen fun a w₁ => ((loadVar ty a).run P w₁).andThen fun v w₂ => .ok (.tuple #[v, tmps.getD q undef]) w₂ := by
  simp only [results, h]
  simp [Sem.run_bind, Result.andThen]
theorem results_css {fn : Func} {p q r : Tmp} {ty : TypeId} (h : fn.results = #[.cell p ty, .tmp q, .tmp r]) (tmps : Array Value) (P : Program) (w : World) :
    (results fn tmps).run P w = ((asAddr (tmps.getD p undef)).run P w).andThen fun a w₁ => ((loadVar ty a).run P w₁).andThen fun v w₂ => .ok (.tuple #[v, tmps.getD q undef, tmps.getD r undef]) w₂ := by
  simp only [results, h]
  simp [Sem.run_bind, Result.andThen]
end Go.Proofs.YtjobmgbchpoheaaGreatDoor
namespace Go.Proofs.YtjobmgbchpoheaaGreatDoor
open Go Go.RowKit

abbrev bt (s : ByteArray) (i : Nat) : Option UInt8 := s.data.toList[i]?
theorem take_or (R : Nat) (s : ByteArray) (i : Nat) (c : UInt8) (w : World) (hs : s.size ≤ 1073741824) (hi : i ≤ s.size) (hr : Rd w R s i false) :
    Calls Tryz.prog 71 #[.pointer (some ⟨R, 0, none⟩), .string ⟨#[c]⟩] w fun e w' =>
      (bt s i = some c ∧ e = .returned (.bool true) ∧ Rd w' R s (i + 1) false ∧ w.grownBy w' (some R)) ∨ (¬ bt s i = some c ∧ e = .returned (.bool false) ∧ Rd w' R s i false ∧ w.grownBy w' (some R)) := by
  refine (take_any R s i false c w hs hi hr).mono ?_
  rintro e w' ⟨b, hb, rfl, h1, h2⟩
  cases b
  · exact Or.inr ⟨fun h => (by have := hb.2 ⟨rfl, h⟩; cases this), rfl, h1, h2⟩
  · exact Or.inl ⟨(hb.1 rfl).2, rfl, h1, h2⟩

set_option maxRecDepth 100000 in
set_option maxHeartbeats 1000000 in
theorem must_bad (R : Nat) (s : ByteArray) (i : Nat) (c : UInt8) (w : World) (hr : Rd w R s i true) :
    Calls Tryz.prog 73 #[.pointer (some ⟨R, 0, none⟩), .string ⟨#[c]⟩] w fun e w' => e = .returned (.tuple #[]) ∧ Rd w' R s i true ∧ w.grownBy w' (some R) := by
  obtain ⟨c0, c1, c2, z1, z2⟩ := hr.cells
  have HR := Lib.hid hr
  clear hr
  go_enter Tryz.func73, Tryz.ntmps73
  go_wp2_with fail
  go_end0
  exact ⟨rfl, HR.out.set true⟩

set_option maxRecDepth 100000 in
set_option maxHeartbeats 1000000 in
theorem must_or (R : Nat) (s : ByteArray) (i : Nat) (c : UInt8) (w : World) (hs : s.size ≤ 1073741824) (hi : i ≤ s.size) (hr : Rd w R s i false) :
    Calls Tryz.prog 73 #[.pointer (some ⟨R, 0, none⟩), .string ⟨#[c]⟩] w fun e w' =>
      (bt s i = some c ∧ e = .returned (.tuple #[]) ∧ Rd w' R s (i + 1) false ∧ w.grownBy w' (some R)) ∨ (¬ bt s i = some c ∧ e = .returned (.tuple #[]) ∧ Rd w' R s i true ∧ w.grownBy w' (some R)) := by
  obtain ⟨c0, c1, c2, z1, z2⟩ := hr.cells
  have HC := Lib.hid (take_or R s i c w hs hi hr)
  clear hr
  go_enter Tryz.func73, Tryz.ntmps73
  go_wp2_with fail
  refine HC.out.mono ?_
  rintro e w1 (⟨h, rfl, hr1, hg1⟩ | ⟨h, rfl, hr1, hg1⟩)
  all_goals
    clear c0 c1 c2 z1 z2
    obtain ⟨c0, c1, c2, z1, z2⟩ := hr1.cells
    have HR := Lib.hid hr1
    have HG := Lib.hid hg1
    have HH := Lib.hid h
    clear hr1 hg1 h
    go_wp2_with fail
    go_end0
    first
    | exact Or.inl ⟨HH.out, rfl, (HR.out.set false).1, grownBy_trans HG.out (HR.out.set false).2⟩
    | exact Or.inr ⟨HH.out, rfl, (HR.out.set true).1, grownBy_trans HG.out (HR.out.set true).2⟩

set_option maxRecDepth 100000 in
set_option maxHeartbeats 1000000 in
theorem l3Bool_any (w : World) : Calls Tryz.prog 140 #[] w fun e w' => e = .returned (.agg #[.int .i64 2, .slice none 0 0]) ∧ Below w.heap.size w w' := by
  have HB := Lib.hid ((Below.refl _ w).alloc (Nat.le_refl _) (.cells #[.int .i64 2, .slice none 0 0] 26))
  go_enter Tryz.func140, Tryz.ntmps140
  go_wp2_with fail
  refine bodyPost_ret (v := .agg #[.int .i64 2, .slice none 0 0]) ?_ rfl ?_
  · rw [results_cell1 rfl]
    go_simp
  · exact ⟨rfl, HB.out⟩
end Go.Proofs.YtjobmgbchpoheaaGreatDoor
namespace Go.Proofs.YtjobmgbchpoheaaGreatDoor
open Go Go.RowKit
structure TP (w : World) (R : Nat) (s : ByteArray) (i : Nat) (bad : Bool) (W : World) : Prop where
  rd : Rd W R s i bad
  grown : w.grownBy W (some R)
  r : W.heap[w.heap.size]? = some (.cells #[.int .i64 0, .slice none 0 0] 26 (0, 0))
  hR : R < w.heap.size
theorem TP.lt {w W : World} {R i : Nat} {s : ByteArray} {bad : Bool} (h : TP w R s i bad W) : w.heap.size < W.heap.size := (Array.getElem?_eq_some_iff.1 h.r).1
theorem TP.step {w W W' : World} {R i j : Nat} {s : ByteArray} {bad bad' : Bool} (h : TP w R s i bad W) (hr : Rd W' R s j bad') (hg : W.grownBy W' (some R)) : TP w R s j bad' W' :=
  ⟨hr, grownBy_trans h.grown hg, (hg.block _ h.lt (fun e => by have := Option.some.inj e; have := h.hR; omega)).trans h.r, h.hR⟩
theorem TP.below {w W W' : World} {R i : Nat} {s : ByteArray} {bad : Bool} (h : TP w R s i bad W) (hb : Below W.heap.size W W') : TP w R s i bad W' :=
  ⟨(hb.block _ h.rd.lt).trans h.rd, ⟨hb.os.trans h.grown.os, hb.tape.trans h.grown.tape, hb.output.trans h.grown.output, Nat.le_trans h.grown.size hb.size, fun k hk hne => (hb.block k (Nat.lt_of_lt_of_le hk h.grown.size)).trans (h.grown.block k hk hne)⟩, (hb.block _ h.lt).trans h.r, h.hR⟩
theorem TP.start {w : World} {R i : Nat} {s : ByteArray} (hr : Rd w R s i false) : TP w R s i false (w.alloc (.cells #[.int .i64 0, .slice none 0 0] 26)) :=
  ⟨(Below.heap_alloc _ _ _ hr.lt).trans hr, World.grownBy_alloc _ _ _, blk_new w _, hr.lt⟩
theorem TP.set {w W : World} {R i : Nat} {s : ByteArray} {bad : Bool} (h : TP w R s i bad W) (b : Bool) : TP w R s i b (W.setCell ⟨R, 2, none⟩ (.bool b)) := h.step (h.rd.set b).1 (h.rd.set b).2
theorem stays_grown {w w' : World} {R : Nat} {C : Nat → Prop} (hg : w.grownBy w' (some R)) (hC : ∀ z, C z → z ≠ R) : Stays C w w' :=
  ⟨hg.size, fun b hb hl => hg.block b hl (fun e => hC b hb (Option.some.inj e))⟩
def TypRet (R : Nat) (s : ByteArray) (k i : Nat) (w : World) (e : Ending) (w' : World) : Prop :=
  ∃ v t, e = .returned v ∧ TT w' (fun z => w.heap.size ≤ z) t v ∧ w.grownBy w' (some R) ∧
    ((∃ j, pty s.data.toList k i = some (t, j) ∧ Rd w' R s j false) ∨ (pty s.data.toList k i = none ∧ ∃ j, j ≤ s.size ∧ Rd w' R s j true))
theorem typ_fin {w W : World} {R i j k : Nat} {s : ByteArray} {bad : Bool} {t : Ty} {p : Value} (h : TP w R s j bad W) (hT : TS W (fun z => w.heap.size + 1 ≤ z) t.args p)
    (ho : (bad = false ∧ pty s.data.toList k i = some (t, j)) ∨ (bad = true ∧ pty s.data.toList k i = none ∧ j ≤ s.size)) :
    TypRet R s k i w (.returned (.agg #[.int .i64 t.kind, p])) ((W.setCell ⟨w.heap.size, 0, none⟩ (.int .i64 t.kind)).setCell ⟨w.heap.size, 1, none⟩ p) := by
  have hR := h.hR
  have hst : ∀ F : Nat → Prop, ¬ F w.heap.size → Stays F W ((W.setCell ⟨w.heap.size, 0, none⟩ (.int .i64 t.kind)).setCell ⟨w.heap.size, 1, none⟩ p) := fun F hF => (setCell_stays _ _ _ _ F hF).trans (setCell_stays _ _ _ _ F hF)
  have hrd : Rd ((W.setCell ⟨w.heap.size, 0, none⟩ (.int .i64 t.kind)).setCell ⟨w.heap.size, 1, none⟩ p) R s j bad := ((hst (fun z => z = R) (by omega)).2 R rfl h.rd.lt).trans h.rd
  have hbl : Below w.heap.size W ((W.setCell ⟨w.heap.size, 0, none⟩ (.int .i64 t.kind)).setCell ⟨w.heap.size, 1, none⟩ p) := ((Below.refl _ W).setCell (p := ⟨w.heap.size, 0, none⟩) (Nat.le_refl _) _).setCell (p := ⟨w.heap.size, 1, none⟩) (Nat.le_refl _) _
  refine ⟨_, t, rfl, ⟨p, rfl, (hT.stays (hst _ (by omega))).mono (fun z hz _ => by omega)⟩, ⟨hbl.os.trans h.grown.os, hbl.tape.trans h.grown.tape, hbl.output.trans h.grown.output, Nat.le_trans h.grown.size hbl.size, fun z hz hne => (hbl.block z hz).trans (h.grown.block z hz hne)⟩, ?_⟩
  rcases ho with ⟨rfl, h1⟩ | ⟨rfl, h1, h2⟩
  · exact Or.inl ⟨j, h1, hrd⟩
  · exact Or.inr ⟨h1, j, h2, hrd⟩
theorem TP.facts {w W : World} {R i : Nat} {s : ByteArray} {bad : Bool} (h : TP w R s i bad W) : W.cell? ⟨w.heap.size, 0, none⟩ = some (.int .i64 0) ∧ W.cell? ⟨w.heap.size, 1, none⟩ = some (.slice none 0 0) ∧ ∀ j, W.frozen? ⟨w.heap.size, j, none⟩ = false :=
  ⟨cell_of_blk h.r 0, cell_of_blk h.r 1, unfrozen_of_blk h.r⟩

theorem pty_1 {s : List UInt8} {k i : Nat} (h : s[i]? = some 73) : pty s (k + 1) i = some (.mk 1 [], i + 1) := by rw [pty, if_pos h]
theorem pty_2 {s : List UInt8} {k i : Nat} (h : s[i]? = some 66) : pty s (k + 1) i = some (.mk 2 [], i + 1) := by rw [pty, if_neg (by rw [h]; decide), if_pos h]
theorem pty_3 {s : List UInt8} {k i : Nat} (h : s[i]? = some 40) : pty s (k + 1) i = (ptys (pty s k) s [62, 41] (i + 1)).map fun r => (.mk 3 r.1, r.2) := by
  rw [pty, if_neg (by rw [h]; decide), if_neg (by rw [h]; decide), if_pos h]
theorem pty_4 {s : List UInt8} {k i : Nat} (h : s[i]? = some 60) : pty s (k + 1) i = (ptys (pty s k) s [62] (i + 1)).map fun r => (.mk 4 r.1, r.2) := by
  rw [pty, if_neg (by rw [h]; decide), if_neg (by rw [h]; decide), if_neg (by rw [h]; decide), if_pos h]
theorem pty_0 {s : List UInt8} {k i : Nat} (h1 : ¬ s[i]? = some 73) (h2 : ¬ s[i]? = some 66) (h3 : ¬ s[i]? = some 40) (h4 : ¬ s[i]? = some 60) : pty s (k + 1) i = none := by
  rw [pty, if_neg h1, if_neg h2, if_neg h3, if_neg h4]
theorem ptys0 {f : Nat → Option (Ty × Nat)} {s : List UInt8} {i : Nat} : ptys f s [] i = some ([], i) := rfl
theorem ptys1_none {f : Nat → Option (Ty × Nat)} {s es : List UInt8} {e : UInt8} {i : Nat} (h : f i = none) : ptys f s (e :: es) i = none := by simp only [ptys, h]
theorem ptys1_miss {f : Nat → Option (Ty × Nat)} {s es : List UInt8} {e : UInt8} {i j : Nat} {t : Ty} (h : f i = some (t, j)) (hc : ¬ s[j]? = some e) : ptys f s (e :: es) i = none := by simp only [ptys, h, if_neg hc]
theorem ptys1_hit {f : Nat → Option (Ty × Nat)} {s es : List UInt8} {e : UInt8} {i j : Nat} {t : Ty} (h : f i = some (t, j)) (hc : s[j]? = some e) : ptys f s (e :: es) i = (ptys f s es (j + 1)).map fun r => (t :: r.1, r.2) := by simp only [ptys, h, if_pos hc]
theorem lit1 {w4 : World} {base : Nat} {t4 : Ty} {s4 : Value} (hs : TS w4 (fun z => base ≤ z) t4.args s4) (hb : base ≤ w4.heap.size) :
    Below w4.heap.size w4 ((w4.alloc (.cells #[.int .i64 t4.kind, s4] 26)).alloc (.cells #[.int .i64 4, .slice (some ⟨w4.heap.size, 0, none⟩) 1 1] 26)) ∧
    Bx ((w4.alloc (.cells #[.int .i64 t4.kind, s4] 26)).alloc (.cells #[.int .i64 4, .slice (some ⟨w4.heap.size, 0, none⟩) 1 1] 26)) (w4.heap.size + 1) 4 (.slice (some ⟨w4.heap.size, 0, none⟩) 1 1) ∧
    TS ((w4.alloc (.cells #[.int .i64 t4.kind, s4] 26)).alloc (.cells #[.int .i64 4, .slice (some ⟨w4.heap.size, 0, none⟩) 1 1] 26)) (fun z => base ≤ z) [t4] (.slice (some ⟨w4.heap.size, 0, none⟩) 1 1) := by
  have hG : Grow _ base (.slice (some ⟨w4.heap.size, 0, none⟩) 1 1) [(t4, s4)] := Grow.lit (W := w4) (cs := #[.int .i64 t4.kind, s4]) (n := 1) rfl rfl hb (by simp [maxLen]) (fun e he => by
    rw [List.mem_singleton] at he
    subst he
    exact hs)
  have hx := Bx.new (w4.alloc (.cells #[.int .i64 t4.kind, s4] 26)) 4 (.slice (some ⟨w4.heap.size, 0, none⟩) 1 1) 26
  rw [World.size_alloc] at hx
  exact ⟨(alloc_below _ _).trans ((alloc_below _ _).mono (by simp)), hx, hG.all.keep (alloc_below _ _)⟩
theorem lit2 {W : World} {base : Nat} {t u : Ty} {s1 s2 : Value} (h1 : TS W (fun z => base ≤ z) t.args s1) (h2 : TS W (fun z => base ≤ z) u.args s2) (hb : base ≤ W.heap.size) :
    TS (W.alloc (.cells #[.int .i64 t.kind, s1, .int .i64 u.kind, s2] 26)) (fun z => base ≤ z) [t, u] (.slice (some ⟨W.heap.size, 0, none⟩) 2 2) := by
  have hG : Grow _ base (.slice (some ⟨W.heap.size, 0, none⟩) 2 2) [(t, s1), (u, s2)] := Grow.lit (W := W) (cs := #[.int .i64 t.kind, s1, .int .i64 u.kind, s2]) (n := 2) rfl rfl hb (by simp [maxLen]) (fun e he => by
    rcases List.mem_cons.1 he with rfl | he
    · exact h1
    · rw [List.mem_singleton] at he
      subst he
      exact h2)
  exact hG.all
theorem Bx.grown {w w' : World} {b R : Nat} {k : Int} {s : Value} (h : Bx w b k s) (hg : w.grownBy w' (some R)) (hne : R ≠ b) : Bx w' b k s :=
  ⟨hg.cell h.1 (fun e => hne (Option.some.inj e).symm), hg.cell h.2 (fun e => hne (Option.some.inj e).symm)⟩
theorem bt_lt {s : ByteArray} {i : Nat} {c : UInt8} (h : bt s i = some c) : i + 1 ≤ s.size := by
  have := (List.getElem?_eq_some_iff.1 h).1
  have h : i < s.size := by simpa using this
  omega

set_option maxRecDepth 100000 in
set_option maxHeartbeats 1000000 in
theorem typ_deep (D : Int) (hD : 8 < D) (R : Nat) (s : ByteArray) (i : Nat) (w : World) (hi : i ≤ s.size) (hr : Rd w R s i false) :
    Calls Tryz.prog 115 #[.pointer (some ⟨R, 0, none⟩), .int .i64 D] w (TypRet R s 0 i w) := by
  have hT := TP.start hr
  obtain ⟨c0, c1, c2, z1, z2⟩ := hT.rd.cells
  have HT1 := Lib.hid (hT.set true)
  obtain ⟨d0, d1, d2, y1, y2⟩ := HT1.out.rd.cells
  obtain ⟨g0, g1, gz⟩ := HT1.out.facts
  clear hr hT
  go_enter Tryz.func115, Tryz.ntmps115
  go_wp2_with fail
  refine bodyPost_ret (v := .agg #[.int .i64 0, .slice none 0 0]) ?_ rfl ?_
  · rw [results_cell1 rfl]
    go_simp
  · exact typ_fin (t := .mk 0 []) HT1.out (.nil _ _) (Or.inr ⟨rfl, rfl, hi⟩)

set_option maxRecDepth 100000 in
set_option maxHeartbeats 2000000 in
theorem typ_step (k : Nat) (D : Int) (d8 : D ≤ 8) (d1 : 1 ≤ D) (R : Nat) (s : ByteArray) (hs : s.size ≤ 1073741824)
    (IH : ∀ (i : Nat) (W : World), i ≤ s.size → Rd W R s i false → Calls Tryz.prog 115 #[.pointer (some ⟨R, 0, none⟩), .int .i64 (D + 1)] W (TypRet R s k i W))
    (i : Nat) (w : World) (hi : i ≤ s.size) (hr : Rd w R s i false) :
    Calls Tryz.prog 115 #[.pointer (some ⟨R, 0, none⟩), .int .i64 D] w (TypRet R s (k + 1) i w) := by
  have hT := TP.start hr
  obtain ⟨c0, c1, c2, z1, z2⟩ := hT.rd.cells
  have HT0 := Lib.hid (hT.set false)
  have HIH := Lib.hid IH
  obtain ⟨d0, d1', d2, y1, y2⟩ := HT0.out.rd.cells
  have dd : decide (8 < D) = false := decide_eq_false (by omega)
  clear hr hT IH d0 d1' y1 y2
  go_enter Tryz.func115, Tryz.ntmps115
  go_wp2_with fail
  refine (take_or R s i 73 _ hs hi HT0.out.rd).mono ?_
  rintro e w1 (⟨h1, rfl, hr1, hg1⟩ | ⟨h1, rfl, hr1, hg1⟩)
  · have HT1 := Lib.hid (HT0.out.step hr1 hg1)
    have H1 := Lib.hid h1
    clear hr1 hg1 h1 c0 c1 c2 z1 z2 d2
    go_wp2_with fail
    refine (l3Int_any w1).mono ?_
    rintro e w2 ⟨rfl, hb2⟩
    have hT2 := HT1.out.below hb2
    obtain ⟨g0, g1, gz⟩ := hT2.facts
    have HT2 := Lib.hid hT2
    clear hb2 hT2
    go_wp2_with fail
    refine bodyPost_ret (v := .agg #[.int .i64 1, .slice none 0 0]) ?_ rfl ?_
    · rw [results_cell1 rfl]
      go_simp
    · exact typ_fin (t := .mk 1 []) HT2.out (.nil _ _) (Or.inl ⟨rfl, pty_1 H1.out⟩)
  have HT1 := Lib.hid (HT0.out.step hr1 hg1)
  have H1 := Lib.hid h1
  clear hr1 hg1 h1 c0 c1 c2 z1 z2 d2
  go_wp2_with fail
  refine (take_or R s i 66 _ hs hi HT1.out.rd).mono ?_
  rintro e w2 (⟨h2, rfl, hr2, hg2⟩ | ⟨h2, rfl, hr2, hg2⟩)
  · have HT2 := Lib.hid (HT1.out.step hr2 hg2)
    have H2 := Lib.hid h2
    clear hr2 hg2 h2
    go_wp2_with fail
    refine (l3Bool_any w2).mono ?_
    rintro e w3 ⟨rfl, hb3⟩
    have hT3 := HT2.out.below hb3
    obtain ⟨g0, g1, gz⟩ := hT3.facts
    have HT3 := Lib.hid hT3
    clear hb3 hT3
    go_wp2_with fail
    refine bodyPost_ret (v := .agg #[.int .i64 2, .slice none 0 0]) ?_ rfl ?_
    · rw [results_cell1 rfl]
      go_simp
    · exact typ_fin (t := .mk 2 []) HT3.out (.nil _ _) (Or.inl ⟨rfl, pty_2 H2.out⟩)
  have HT2 := Lib.hid (HT1.out.step hr2 hg2)
  have H2 := Lib.hid h2
  clear hr2 hg2 h2
  go_wp2_with fail
  refine (take_or R s i 60 _ hs hi HT2.out.rd).mono ?_
  rintro e w3 (⟨h3, rfl, hr3, hg3⟩ | ⟨h3, rfl, hr3, hg3⟩)
  · have HT3 := Lib.hid (HT2.out.step hr3 hg3)
    have H3 := Lib.hid h3
    have hi3 := bt_lt h3
    clear hr3 hg3 h3
    go_wp2_with fail
    refine (HIH.out (i + 1) w3 hi3 HT3.out.rd).mono ?_
    rintro e w4 ⟨v4, t4, rfl, ⟨s4, rfl, hs4⟩, hg4, ho4⟩
    obtain ⟨p4, c4, rfl⟩ := hs4.form
    have hlt := HT3.out.lt
    have hsz := hg4.size
    have hRl := HT3.out.hR
    obtain ⟨lb, lx, lts⟩ := lit1 (base := w.heap.size + 1) (hs4.mono (fun z hz _ => by show _ ≤ z; have : w3.heap.size ≤ z := hz; omega)) (by omega)
    have HLX := Lib.hid lx
    have HLT := Lib.hid lts
    have hne : R ≠ w4.heap.size + 1 := by omega
    rcases ho4 with ⟨j, hp, hrd⟩ | ⟨hp, j, hj, hrd⟩
    · have HT5 := Lib.hid ((HT3.out.step hrd hg4).below lb)
      have hj := (pty_good _ _ _ _ _ hp).le
      have HP := Lib.hid hp
      have hj' : j ≤ s.size := by simpa using hj
      clear hp hrd hg4 hs4 lb lx lts hj hsz hlt
      go_wp2_with fail
      refine (must_or R s j 62 _ hs hj' HT5.out.rd).mono ?_
      rintro e w6 (⟨h6, rfl, hr6, hg6⟩ | ⟨h6, rfl, hr6, hg6⟩)
      all_goals
        have hT6 := HT5.out.step hr6 hg6
        have HTS := Lib.hid (HLT.out.stays (stays_grown hg6 (fun z hz => by have : w.heap.size + 1 ≤ z := hz; omega)))
        obtain ⟨x0, x1⟩ := HLX.out.grown hg6 hne
        obtain ⟨g0, g1, gz⟩ := hT6.facts
        have HT6 := Lib.hid hT6
        have H6 := Lib.hid h6
        clear hr6 hg6 h6 hT6
        go_wp2_with fail
        refine bodyPost_ret (v := .agg #[.int .i64 4, .slice (some ⟨w4.heap.size, 0, none⟩) 1 1]) ?_ rfl ?_
        · rw [results_cell1 rfl]
          go_simp
        · first
          | exact typ_fin (t := .mk 4 [t4]) HT6.out HTS.out (Or.inl ⟨rfl, by rw [pty_4 H3.out, ptys1_hit HP.out H6.out, ptys0]; rfl⟩)
          | exact typ_fin (t := .mk 4 [t4]) HT6.out HTS.out (Or.inr ⟨rfl, by rw [pty_4 H3.out, ptys1_miss HP.out H6.out]; rfl, hj'⟩)
    · have HT5 := Lib.hid ((HT3.out.step hrd hg4).below lb)
      have HP := Lib.hid hp
      clear hp hrd hg4 hs4 lb lx lts hsz hlt
      go_wp2_with fail
      refine (must_bad R s j 62 _ HT5.out.rd).mono ?_
      rintro e w6 ⟨rfl, hr6, hg6⟩
      have hT6 := HT5.out.step hr6 hg6
      have HTS := Lib.hid (HLT.out.stays (stays_grown hg6 (fun z hz => by have : w.heap.size + 1 ≤ z := hz; omega)))
      obtain ⟨x0, x1⟩ := HLX.out.grown hg6 hne
      obtain ⟨g0, g1, gz⟩ := hT6.facts
      have HT6 := Lib.hid hT6
      clear hr6 hg6 hT6
      go_wp2_with fail
      refine bodyPost_ret (v := .agg #[.int .i64 4, .slice (some ⟨w4.heap.size, 0, none⟩) 1 1]) ?_ rfl ?_
      · rw [results_cell1 rfl]
        go_simp
      · exact typ_fin (t := .mk 4 [t4]) HT6.out HTS.out (Or.inr ⟨rfl, by rw [pty_4 H3.out, ptys1_none HP.out]; rfl, hj⟩)
  have HT3 := Lib.hid (HT2.out.step hr3 hg3)
  have H3 := Lib.hid h3
  clear hr3 hg3 h3
  go_wp2_with fail
  refine (must_or R s i 40 _ hs hi HT3.out.rd).mono ?_
  rintro e w4 (⟨h4, rfl, hr4, hg4⟩ | ⟨h4, rfl, hr4, hg4⟩)
  rotate_left
  · have hT4 := HT3.out.step hr4 hg4
    obtain ⟨c0, c1, c2, z1, z2⟩ := hr4.cells
    obtain ⟨g0, g1, gz⟩ := hT4.facts
    have HT4 := Lib.hid hT4
    have H4 := Lib.hid h4
    clear hT4 hr4 hg4 h4
    go_wp2_with fail
    refine bodyPost_ret (v := .agg #[.int .i64 0, .slice none 0 0]) ?_ rfl ?_
    · rw [results_cell1 rfl]
      go_simp
    · exact typ_fin (t := .mk 0 []) HT4.out (.nil _ _) (Or.inr ⟨rfl, pty_0 H1.out H2.out H4.out H3.out, hi⟩)
  have HT4 := Lib.hid (HT3.out.step hr4 hg4)
  obtain ⟨c0, c1, c2, z1, z2⟩ := hr4.cells
  have H4 := Lib.hid h4
  have hi4 := bt_lt h4
  clear hr4 hg4 h4
  go_wp2_with fail
  refine (HIH.out (i + 1) w4 hi4 HT4.out.rd).mono ?_
  rintro e w5 ⟨v5, t5, rfl, ⟨s5, rfl, hs5⟩, hg5, ho5⟩
  obtain ⟨p5, c5, rfl⟩ := hs5.form
  clear c0 c1 c2 z1 z2
  have hlt := HT4.out.lt
  have hsz := hg5.size
  have hRl := HT4.out.hR
  have hba := alloc_below w5 (.cells #[.int .i64 t5.kind, .slice p5 t5.args.length c5] 26)
  have HX5 := Lib.hid (Bx.new w5 t5.kind (.slice p5 t5.args.length c5) 26)
  have HS5 := Lib.hid ((hs5.mono (C' := fun z => w.heap.size + 1 ≤ z) (fun z hz _ => by have : w4.heap.size ≤ z := hz; omega)).keep hba)
  have hne5 : R ≠ w5.heap.size := by omega
  have LT5 := Lib.hid (show w.heap.size + 1 ≤ w5.heap.size by omega)
  have hC : ∀ z, w.heap.size + 1 ≤ z → z ≠ R := fun z hz => by omega
  have HC := Lib.hid hC
  rcases ho5 with ⟨j, hp, hrd⟩ | ⟨hp, j, hj, hrd⟩
  rotate_left
  · have HT5 := Lib.hid ((HT4.out.step hrd hg5).below hba)
    have HP := Lib.hid hp
    clear hp hrd hg5 hs5 hba hsz hlt hC
    go_wp2_with fail
    refine (must_bad R s j 62 _ HT5.out.rd).mono ?_
    rintro e w6 ⟨rfl, hr6, hg6⟩
    have hT6 := HT5.out.step hr6 hg6
    obtain ⟨c0, c1, c2, z1, z2⟩ := hr6.cells
    obtain ⟨g0, g1, gz⟩ := hT6.facts
    have HT6 := Lib.hid hT6
    clear hr6 hg6 hT6
    go_wp2_with fail
    refine bodyPost_ret (v := .agg #[.int .i64 0, .slice none 0 0]) ?_ rfl ?_
    · rw [results_cell1 rfl]
      go_simp
    · exact typ_fin (t := .mk 0 []) HT6.out (.nil _ _) (Or.inr ⟨rfl, by rw [pty_3 H4.out, ptys1_none HP.out]; rfl, hj⟩)
  have HT5 := Lib.hid ((HT4.out.step hrd hg5).below hba)
  have hj : j ≤ s.size := by have := (pty_good _ _ _ _ _ hp).le; simpa using this
  have HP := Lib.hid hp
  clear hp hrd hg5 hs5 hba hsz hlt hC
  go_wp2_with fail
  refine (must_or R s j 62 _ hs hj HT5.out.rd).mono ?_
  rintro e w6 (⟨h6, rfl, hr6, hg6⟩ | ⟨h6, rfl, hr6, hg6⟩)
  rotate_left
  · have hT6 := HT5.out.step hr6 hg6
    obtain ⟨c0, c1, c2, z1, z2⟩ := hr6.cells
    obtain ⟨g0, g1, gz⟩ := hT6.facts
    have HT6 := Lib.hid hT6
    have H6 := Lib.hid h6
    clear hr6 hg6 hT6 h6
    go_wp2_with fail
    refine bodyPost_ret (v := .agg #[.int .i64 0, .slice none 0 0]) ?_ rfl ?_
    · rw [results_cell1 rfl]
      go_simp
    · exact typ_fin (t := .mk 0 []) HT6.out (.nil _ _) (Or.inr ⟨rfl, by rw [pty_3 H4.out, ptys1_miss HP.out H6.out]; rfl, hj⟩)
  have HT6 := Lib.hid (HT5.out.step hr6 hg6)
  have HX6 := Lib.hid (HX5.out.grown hg6 hne5)
  have HS6 := Lib.hid (HS5.out.stays (stays_grown hg6 HC.out))
  obtain ⟨c0, c1, c2, z1, z2⟩ := hr6.cells
  have H6 := Lib.hid h6
  have hj6 := bt_lt h6
  clear hr6 hg6 h6
  go_wp2_with fail
  refine (HIH.out (j + 1) w6 hj6 HT6.out.rd).mono ?_
  rintro e w7 ⟨v7, t7, rfl, ⟨s7, rfl, hs7⟩, hg7, ho7⟩
  obtain ⟨p7, c7, rfl⟩ := hs7.form
  clear c0 c1 c2 z1 z2
  have hlt := HT6.out.lt
  have hsz := hg7.size
  have hba := alloc_below w7 (.cells #[.int .i64 t7.kind, .slice p7 t7.args.length c7] 26)
  have HX7 := Lib.hid (Bx.new w7 t7.kind (.slice p7 t7.args.length c7) 26)
  have HS7 := Lib.hid ((hs7.mono (C' := fun z => w.heap.size + 1 ≤ z) (fun z hz _ => by have : w6.heap.size ≤ z := hz; omega)).keep hba)
  have HX67 := Lib.hid ((HX6.out.grown hg7 hne5).keep hba)
  have HS67 := Lib.hid ((HS6.out.stays (stays_grown hg7 HC.out)).keep hba)
  have hne7 : R ≠ w7.heap.size := by omega
  have LT7 := Lib.hid (show w.heap.size + 1 ≤ w7.heap.size by omega)
  rcases ho7 with ⟨n, hp7, hrd⟩ | ⟨hp7, n, hn, hrd⟩
  · have HT7 := Lib.hid ((HT6.out.step hrd hg7).below hba)
    have hn : n ≤ s.size := by have := (pty_good _ _ _ _ _ hp7).le; simpa using this
    have HP7 := Lib.hid hp7
    clear hp7 hrd hg7 hs7 hba hsz hlt
    go_wp2_with fail
    refine (must_or R s n 41 _ hs hn HT7.out.rd).mono ?_
    rintro e w8 (⟨h8, rfl, hr8, hg8⟩ | ⟨h8, rfl, hr8, hg8⟩)
    all_goals
      have hT8 := HT7.out.step hr8 hg8
      obtain ⟨x0, x1⟩ := HX67.out.grown hg8 hne5
      obtain ⟨y0, y1⟩ := HX7.out.grown hg8 hne7
      obtain ⟨f0, f1, gz⟩ := hT8.facts
      have g0 := al_cell f0
      have g1 := al_cell f1
      have gz := al_frz hT8.r
      have HT8 := Lib.hid hT8
      have H8 := Lib.hid h8
      have LT8 := Lib.hid (show w.heap.size + 1 ≤ w8.heap.size by have := hT8.lt; omega)
      have HTS := Lib.hid (lit2 (base := w.heap.size + 1) (HS67.out.stays (stays_grown hg8 HC.out)) (HS7.out.stays (stays_grown hg8 HC.out)) LT8.out)
      clear hr8 hg8 h8 hT8 f0 f1
      go_wp2_with fail
      refine bodyPost_ret (v := .agg #[.int .i64 3, .slice (some ⟨w8.heap.size, 0, none⟩) 2 2]) ?_ rfl ?_
      · rw [results_cell1 rfl]
        go_simp
      · first
        | exact typ_fin (t := .mk 3 [t5, t7]) (HT8.out.below (alloc_below _ _)) HTS.out (Or.inl ⟨rfl, by rw [pty_3 H4.out, ptys1_hit HP.out H6.out, ptys1_hit HP7.out H8.out, ptys0]; rfl⟩)
        | exact typ_fin (t := .mk 3 [t5, t7]) (HT8.out.below (alloc_below _ _)) HTS.out (Or.inr ⟨rfl, by rw [pty_3 H4.out, ptys1_hit HP.out H6.out, ptys1_miss HP7.out H8.out]; rfl, hn⟩)
  · have HT7 := Lib.hid ((HT6.out.step hrd hg7).below hba)
    have HP7 := Lib.hid hp7
    clear hp7 hrd hg7 hs7 hba hsz hlt
    go_wp2_with fail
    refine (must_bad R s n 41 _ HT7.out.rd).mono ?_
    rintro e w8 ⟨rfl, hr8, hg8⟩
    have hT8 := HT7.out.step hr8 hg8
    obtain ⟨x0, x1⟩ := HX67.out.grown hg8 hne5
    obtain ⟨y0, y1⟩ := HX7.out.grown hg8 hne7
    obtain ⟨f0, f1, gz⟩ := hT8.facts
    have g0 := al_cell f0
    have g1 := al_cell f1
    have gz := al_frz hT8.r
    have HT8 := Lib.hid hT8
    have LT8 := Lib.hid (show w.heap.size + 1 ≤ w8.heap.size by have := hT8.lt; omega)
    have HTS := Lib.hid (lit2 (base := w.heap.size + 1) (HS67.out.stays (stays_grown hg8 HC.out)) (HS7.out.stays (stays_grown hg8 HC.out)) LT8.out)
    clear hr8 hg8 hT8 f0 f1
    go_wp2_with fail
    refine bodyPost_ret (v := .agg #[.int .i64 3, .slice (some ⟨w8.heap.size, 0, none⟩) 2 2]) ?_ rfl ?_
    · rw [results_cell1 rfl]
      go_simp
    · exact typ_fin (t := .mk 3 [t5, t7]) (HT8.out.below (alloc_below _ _)) HTS.out (Or.inr ⟨rfl, by rw [pty_3 H4.out, ptys1_hit HP.out H6.out, ptys1_none HP7.out]; rfl, hn⟩)
theorem typ_any (R : Nat) (s : ByteArray) (hs : s.size ≤ 1073741824) : ∀ (k : Nat), k ≤ 8 → ∀ (i : Nat) (W : World), i ≤ s.size → Rd W R s i false →
    Calls Tryz.prog 115 #[.pointer (some ⟨R, 0, none⟩), .int .i64 (9 - (k : Int))] W (TypRet R s k i W)
  | 0, _, i, W, hi, hr => typ_deep _ (by omega) R s i W hi hr
  | k + 1, hk, i, W, hi, hr => typ_step k _ (by omega) (by omega) R s hs (fun i W hi hr => by
      have := typ_any R s hs k (by omega) i W hi hr
      rwa [show (9 - (k : Int)) = 9 - ((k + 1 : Nat) : Int) + 1 by omega] at this) i W hi hr
end Go.Proofs.YtjobmgbchpoheaaGreatDoor
namespace Go.Proofs.YtjobmgbchpoheaaGreatDoor
open Go Go.RowKit
inductive D where
  | cell (u : Value)
  | rows (T : TypeId) (k n : Nat) (ds : List D)
inductive DM (w : World) (C : Nat → Prop) : D → Value → Prop
  | cell (u : Value) : DM w C (.cell u) u
  | nil (T : TypeId) (k : Nat) (a : Option Addr) (c : Nat) : DM w C (.rows T k 0 []) (.slice a 0 c)
  | rows {T : TypeId} {k n b o c : Nat} {ds : List D} (V : Nat → Value) (h1 : 1 ≤ n) (hc : n ≤ c) (hm : c ≤ 9223372036854775807) (hl : ds.length = n * k) (hC : C b) (hb : b < w.heap.size)
      (hv : ∀ i d, ds[i]? = some d → w.cell? ⟨b, o + i, none⟩ = some (V i)) (hr : ∀ i d, ds[i]? = some d → DM w C d (V i)) : DM w C (.rows T k n ds) (.slice (some ⟨b, o, none⟩) n c)

theorem DM.stays {w w' : World} {C : Nat → Prop} {d : D} {v : Value} (h : DM w C d v) (hs : Stays C w w') : DM w' C d v := by
  induction h with
  | cell u => exact .cell u
  | nil T k a c => exact .nil T k a c
  | rows V h1 hc hm hl hC hb hv hr ih =>
    exact .rows V h1 hc hm hl hC (Nat.lt_of_lt_of_le hb hs.1) (fun i d hi => by rw [World.cell?_of_block (w := _) (hs.2 _ hC hb)]; exact hv i d hi) ih
theorem DM.keep {w w' : World} {C : Nat → Prop} {d : D} {v : Value} (h : DM w C d v) (hb : Below w.heap.size w w') : DM w' C d v := h.stays (.of_below hb)
theorem DM.mono {w : World} {C C' : Nat → Prop} {d : D} {v : Value} (h : DM w C d v) (hC' : ∀ b, C b → b < w.heap.size → C' b) : DM w C' d v := by
  induction h with
  | cell u => exact .cell u
  | nil T k a c => exact .nil T k a c
  | rows V h1 hc hm hl hC hb hv hr ih => exact .rows V h1 hc hm hl (hC' _ hC hb) hb hv ih
theorem DM.form {w : World} {C : Nat → Prop} {T : TypeId} {k n : Nat} {ds : List D} {v : Value} (h : DM w C (.rows T k n ds) v) : ∃ a c, v = .slice a n c := by
  cases h with
  | nil => exact ⟨_, _, rfl⟩
  | rows => exact ⟨_, _, rfl⟩
theorem DM.len {w : World} {C : Nat → Prop} {T : TypeId} {k n : Nat} {ds : List D} {v : Value} (h : DM w C (.rows T k n ds) v) : n ≤ 9223372036854775807 ∧ ds.length = n * k := by
  cases h with
  | nil => simp
  | rows V h1 hc hm hl => exact ⟨by omega, hl⟩
theorem DM.val {w : World} {C : Nat → Prop} {u v : Value} (h : DM w C (.cell u) v) : v = u := by
  cases h; rfl
theorem DM.part {w : World} {C : Nat → Prop} {T : TypeId} {k n c : Nat} {p : Option Addr} {ds : List D} (h : DM w C (.rows T k n ds) (.slice p n c)) (hn : 0 < ds.length) :
    ∃ (b o : Nat) (V : Nat → Value), p = some ⟨b, o, none⟩ ∧ C b ∧ b < w.heap.size ∧ (∀ i d, ds[i]? = some d → DM w C d (V i) ∧ ∀ w', Stays C w w' → w'.cell? ⟨b, o + i, none⟩ = some (V i)) := by
  cases h with
  | nil => simp at hn
  | @rows T k n b o c ds V h1 hc hm hl hC hb hv hr =>
    exact ⟨b, o, V, rfl, hC, hb, fun i d hi => ⟨hr i d hi, fun w' hw => (World.cell?_of_block (w := w) (a := ⟨b, o + i, none⟩) (hw.2 b hC hb)).trans (hv i d hi)⟩⟩
inductive DO (w : World) : D → Value → (Nat → Prop) → Prop
  | cell (u : Value) (F : Nat → Prop) : DO w (.cell u) u F
  | nil (T : TypeId) (k : Nat) (F : Nat → Prop) : DO w (.rows T k 0 []) (.slice none 0 0) F
  | rows {T : TypeId} {k n b c : Nat} {ds : List D} {F : Nat → Prop} (cur : Array Value) (V : Nat → Value) (G : Nat → Nat → Prop) (hblk : w.heap[b]? = some (.cells cur T (0, 0))) (hsz : cur.size = c * k) (hn : n ≤ c) (hm : c ≤ maxLen)
      (hl : ds.length = n * k) (hF : F b) (hv : ∀ i, i < n * k → cur[i]? = some (V i)) (hr : ∀ i d, ds[i]? = some d → DO w d (V i) (G i))
      (hG : ∀ i z, i < n * k → G i z → F z ∧ z ≠ b) (hd : ∀ i j z, i < n * k → j < n * k → i ≠ j → G i z → G j z → False) : DO w (.rows T k n ds) (.slice (some ⟨b, 0, none⟩) n c) F

theorem blk_lt {w : World} {b : Nat} {o : Obj} (h : w.heap[b]? = some o) : b < w.heap.size := (Array.getElem?_eq_some_iff.1 h).1
theorem ds_lt {ds : List D} {i m : Nat} {d : D} (h : ds[i]? = some d) (hl : ds.length = m) : i < m := hl ▸ (List.getElem?_eq_some_iff.1 h).1

theorem DO.stays {w w' : World} {F : Nat → Prop} {d : D} {v : Value} (h : DO w d v F) : Stays F w w' → DO w' d v F := by
  induction h with
  | cell u F => intro _; exact .cell u F
  | nil T k F => intro _; exact .nil T k F
  | rows cur V G hblk hsz hn hm hl hF hv hr hG hd ih =>
    intro hs
    exact .rows cur V G ((hs.2 _ hF (blk_lt hblk)).trans hblk) hsz hn hm hl hF hv (fun i d hi => ih i d hi ⟨hs.1, fun b hb hlt => hs.2 b (hG i b (ds_lt hi hl) hb).1 hlt⟩) hG hd
theorem DO.mono {w : World} {F F' : Nat → Prop} {d : D} {v : Value} (h : DO w d v F) (hF' : ∀ b, F b → F' b) : DO w d v F' := by
  cases h with
  | cell => exact .cell _ F'
  | nil => exact .nil _ _ F'
  | rows cur V G hblk hsz hn hm hl hF hv hr hG hd => exact .rows cur V G hblk hsz hn hm hl (hF' _ hF) hv hr (fun i z hi hz => ⟨hF' _ (hG i z hi hz).1, (hG i z hi hz).2⟩) hd
theorem DO.inHeap {w : World} {F : Nat → Prop} {d : D} {v : Value} (h : DO w d v F) : DO w d v (fun z => F z ∧ z < w.heap.size) := by
  induction h with
  | cell u F => exact .cell u _
  | nil T k F => exact .nil T k _
  | rows cur V G hblk hsz hn hm hl hF hv hr hG hd ih =>
    exact .rows cur V (fun i z => G i z ∧ z < w.heap.size) hblk hsz hn hm hl ⟨hF, blk_lt hblk⟩ hv ih (fun i z hi hz => ⟨⟨(hG i z hi hz.1).1, hz.2⟩, (hG i z hi hz.1).2⟩) (fun i j z hi hj hij h1 h2 => hd i j z hi hj hij h1.1 h2.1)
theorem DO.dm {w : World} {F : Nat → Prop} {d : D} {v : Value} (h : DO w d v F) : DM w F d v := by
  induction h with
  | cell u F => exact .cell u
  | nil T k F => exact .nil T k _ _
  | @rows T k n b c ds F cur V G hblk hsz hn hm hl hF hv hr hG hd ih =>
    by_cases h0 : n = 0
    · subst h0
      have : ds = [] := List.eq_nil_of_length_eq_zero (by simpa using hl)
      subst this
      exact .nil _ _ _ _
    · refine .rows V (by omega) hn (by unfold maxLen at hm; omega) hl hF (blk_lt hblk) (fun i d hi => ?_) (fun i d hi => (ih i d hi).mono (fun z hz _ => (hG i z (ds_lt hi hl) hz).1))
      rw [Nat.zero_add]
      simp only [World.cell?, hblk]
      exact hv i (ds_lt hi hl)
def MS (w : World) (C : Nat → Prop) (ds : List D) (vs : List Value) : Prop := vs.length = ds.length ∧ ∀ (i : Nat) (d : D) (v : Value), ds[i]? = some d → vs[i]? = some v → DM w C d v
structure OSt (w : World) (ds : List D) (vs : List Value) (F : Nat → Prop) : Prop where
  len : vs.length = ds.length
  G : ∃ G : Nat → Nat → Prop, (∀ (i : Nat) (d : D) (v : Value), ds[i]? = some d → vs[i]? = some v → DO w d v (G i)) ∧ (∀ i z, i < ds.length → G i z → F z) ∧ ∀ i j z, i < ds.length → j < ds.length → i ≠ j → G i z → G j z → False
theorem MS.stays {w w' : World} {C : Nat → Prop} {ds : List D} {vs : List Value} (h : MS w C ds vs) (hs : Stays C w w') : MS w' C ds vs := ⟨h.1, fun i d v hd hv => (h.2 i d v hd hv).stays hs⟩
theorem MS.mono {w : World} {C C' : Nat → Prop} {ds : List D} {vs : List Value} (h : MS w C ds vs) (hC' : ∀ b, C b → b < w.heap.size → C' b) : MS w C' ds vs := ⟨h.1, fun i d v hd hv => (h.2 i d v hd hv).mono hC'⟩
theorem OSt.stays {w w' : World} {F : Nat → Prop} {ds : List D} {vs : List Value} (h : OSt w ds vs F) (hs : Stays F w w') : OSt w' ds vs F := by
  obtain ⟨hl, G, h1, h2, h3⟩ := h
  exact ⟨hl, G, fun i d v hd hv => (h1 i d v hd hv).stays ⟨hs.1, fun b hb hlt => hs.2 b (h2 i b (List.getElem?_eq_some_iff.1 hd).1 hb) hlt⟩, h2, h3⟩
theorem OSt.keep {w w' : World} {F : Nat → Prop} {ds : List D} {vs : List Value} (h : OSt w ds vs F) (hb : Below w.heap.size w w') : OSt w' ds vs F := h.stays (.of_below hb)
theorem OSt.mono {w : World} {F F' : Nat → Prop} {ds : List D} {vs : List Value} (h : OSt w ds vs F) (hF : ∀ b, F b → F' b) : OSt w ds vs F' := by
  obtain ⟨hl, G, h1, h2, h3⟩ := h
  exact ⟨hl, G, h1, fun i z hi hz => hF z (h2 i z hi hz), h3⟩
theorem OSt.ms {w : World} {F : Nat → Prop} {ds : List D} {vs : List Value} (h : OSt w ds vs F) : MS w F ds vs := by
  obtain ⟨hl, G, h1, h2, h3⟩ := h
  exact ⟨hl, fun i d v hd hv => (h1 i d v hd hv).dm.mono (fun z hz _ => h2 i z (List.getElem?_eq_some_iff.1 hd).1 hz)⟩
end Go.Proofs.YtjobmgbchpoheaaGreatDoor
