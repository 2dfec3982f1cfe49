/-
  The contract of the model's l4Type: the type that stands at the reader's place, at most so deep; else an error.
-/
import Derived.Test.YtnciibngcaajgaaTyCopy
import Derived.Test.YtnciibngcaajgaaRdrS
import Derived.Test.YtnciibngcaajgaaDrawT1
namespace Go.Proofs.Ytnciibngcaajgaa
open Go Go.RowKit

theorem results_cs {fn : Func} {p q : Tmp} {ty : TypeId} (h : fn.results = #[.cell p ty, .tmp q]) (tmps : Array Value) (P : Program) (w : World) :
    (results fn tmps).run P w = ((asAddr (tmps.getD p undef)).run P w).andThen fun a w₁ => ((loadVar ty a).run P w₁).andThen fun v w₂ => .ok (.tuple #[v, tmps.getD q undef]) w₂ := by
  simp only [results, h]
  simp [Sem.run_bind, Result.andThen]
theorem results_css {fn : Func} {p q r : Tmp} {ty : TypeId} (h : fn.results = #[.cell p ty, .tmp q, .tmp r]) (tmps : Array Value) (P : Program) (w : World) :
    (results fn tmps).run P w = ((asAddr (tmps.getD p undef)).run P w).andThen fun a w₁ => ((loadVar ty a).run P w₁).andThen fun v w₂ => .ok (.tuple #[v, tmps.getD q undef, tmps.getD r undef]) w₂ := by
  simp only [results, h]
  simp [Sem.run_bind, Result.andThen]
end Go.Proofs.Ytnciibngcaajgaa
namespace Go.Proofs.Ytnciibngcaajgaa
open Go Go.RowKit

abbrev bt (s : ByteArray) (i : Nat) : Option UInt8 := s.data.toList[i]?
theorem take_or (R : Nat) (s : ByteArray) (i : Nat) (c : UInt8) (w : World) (hs : s.size ≤ 1073741824) (hi : i ≤ s.size) (hr : Rd w R s i false) :
    Calls Try.prog 102 #[.pointer (some ⟨R, 0, none⟩), .string ⟨#[c]⟩] w fun e w' =>
      (bt s i = some c ∧ e = .returned (.bool true) ∧ Rd w' R s (i + 1) false ∧ w.grownBy w' (some R)) ∨ (¬ bt s i = some c ∧ e = .returned (.bool false) ∧ Rd w' R s i false ∧ w.grownBy w' (some R)) := by
  refine (take_any R s i false c w hs hi hr).mono ?_
  rintro e w' ⟨b, hb, rfl, h1, h2⟩
  cases b
  · exact Or.inr ⟨fun h => (by have := hb.2 ⟨rfl, h⟩; cases this), rfl, h1, h2⟩
  · exact Or.inl ⟨(hb.1 rfl).2, rfl, h1, h2⟩

set_option maxRecDepth 100000 in
set_option maxHeartbeats 1000000 in
theorem must_bad (R : Nat) (s : ByteArray) (i : Nat) (c : UInt8) (w : World) (hr : Rd w R s i true) :
    Calls Try.prog 104 #[.pointer (some ⟨R, 0, none⟩), .string ⟨#[c]⟩] w fun e w' => e = .returned (.tuple #[]) ∧ Rd w' R s i true ∧ w.grownBy w' (some R) := by
  obtain ⟨c0, c1, c2, z1, z2⟩ := hr.cells
  have HR := Lib.hid hr
  clear hr
  go_enter Try.func104, Try.ntmps104
  go_wp2_with fail
  go_end0
  exact ⟨rfl, HR.out.set true⟩

set_option maxRecDepth 100000 in
set_option maxHeartbeats 1000000 in
theorem must_or (R : Nat) (s : ByteArray) (i : Nat) (c : UInt8) (w : World) (hs : s.size ≤ 1073741824) (hi : i ≤ s.size) (hr : Rd w R s i false) :
    Calls Try.prog 104 #[.pointer (some ⟨R, 0, none⟩), .string ⟨#[c]⟩] w fun e w' =>
      (bt s i = some c ∧ e = .returned (.tuple #[]) ∧ Rd w' R s (i + 1) false ∧ w.grownBy w' (some R)) ∨ (¬ bt s i = some c ∧ e = .returned (.tuple #[]) ∧ Rd w' R s i true ∧ w.grownBy w' (some R)) := by
  obtain ⟨c0, c1, c2, z1, z2⟩ := hr.cells
  have HC := Lib.hid (take_or R s i c w hs hi hr)
  clear hr
  go_enter Try.func104, Try.ntmps104
  go_wp2_with fail
  refine HC.out.mono ?_
  rintro e w1 (⟨h, rfl, hr1, hg1⟩ | ⟨h, rfl, hr1, hg1⟩)
  all_goals
    clear c0 c1 c2 z1 z2
    obtain ⟨c0, c1, c2, z1, z2⟩ := hr1.cells
    have HR := Lib.hid hr1
    have HG := Lib.hid hg1
    have HH := Lib.hid h
    clear hr1 hg1 h
    go_wp2_with fail
    go_end0
    first
    | exact Or.inl ⟨HH.out, rfl, (HR.out.set false).1, grownBy_trans HG.out (HR.out.set false).2⟩
    | exact Or.inr ⟨HH.out, rfl, (HR.out.set true).1, grownBy_trans HG.out (HR.out.set true).2⟩

set_option maxRecDepth 100000 in
set_option maxHeartbeats 1000000 in
theorem l3Bool_any (w : World) : Calls Try.prog 103 #[] w fun e w' => e = .returned (.agg #[.int .i64 2, .slice none 0 0]) ∧ Below w.heap.size w w' := by
  have HB := Lib.hid ((Below.refl _ w).alloc (Nat.le_refl _) (.cells #[.int .i64 2, .slice none 0 0] 26))
  go_enter Try.func103, Try.ntmps103
  go_wp2_with fail
  refine bodyPost_ret (v := .agg #[.int .i64 2, .slice none 0 0]) ?_ rfl ?_
  · rw [results_cell1 rfl]
    go_simp
  · exact ⟨rfl, HB.out⟩
end Go.Proofs.Ytnciibngcaajgaa
namespace Go.Proofs.Ytnciibngcaajgaa
open Go Go.RowKit

/-- While a type is read: the reader, the result's cell as it was. -/
structure TP (w : World) (R : Nat) (s : ByteArray) (i : Nat) (bad : Bool) (W : World) : Prop where
  rd : Rd W R s i bad
  grown : w.grownBy W (some R)
  r : W.heap[w.heap.size]? = some (.cells #[.int .i64 0, .slice none 0 0] 26 (0, 0))
  hR : R < w.heap.size
theorem TP.lt {w W : World} {R i : Nat} {s : ByteArray} {bad : Bool} (h : TP w R s i bad W) : w.heap.size < W.heap.size := (Array.getElem?_eq_some_iff.1 h.r).1
theorem TP.step {w W W' : World} {R i j : Nat} {s : ByteArray} {bad bad' : Bool} (h : TP w R s i bad W) (hr : Rd W' R s j bad') (hg : W.grownBy W' (some R)) : TP w R s j bad' W' :=
  ⟨hr, grownBy_trans h.grown hg, (hg.block _ h.lt (fun e => by have := Option.some.inj e; have := h.hR; omega)).trans h.r, h.hR⟩
theorem TP.below {w W W' : World} {R i : Nat} {s : ByteArray} {bad : Bool} (h : TP w R s i bad W) (hb : Below W.heap.size W W') : TP w R s i bad W' :=
  ⟨(hb.block _ h.rd.lt).trans h.rd, ⟨hb.os.trans h.grown.os, hb.tape.trans h.grown.tape, hb.output.trans h.grown.output, Nat.le_trans h.grown.size hb.size, fun k hk hne => (hb.block k (Nat.lt_of_lt_of_le hk h.grown.size)).trans (h.grown.block k hk hne)⟩, (hb.block _ h.lt).trans h.r, h.hR⟩
theorem TP.start {w : World} {R i : Nat} {s : ByteArray} (hr : Rd w R s i false) : TP w R s i false (w.alloc (.cells #[.int .i64 0, .slice none 0 0] 26)) :=
  ⟨(Below.heap_alloc _ _ _ hr.lt).trans hr, World.grownBy_alloc _ _ _, blk_new w _, hr.lt⟩
theorem TP.set {w W : World} {R i : Nat} {s : ByteArray} {bad : Bool} (h : TP w R s i bad W) (b : Bool) : TP w R s i b (W.setCell ⟨R, 2, none⟩ (.bool b)) := h.step (h.rd.set b).1 (h.rd.set b).2
theorem stays_grown {w w' : World} {R : Nat} {C : Nat → Prop} (hg : w.grownBy w' (some R)) (hC : ∀ z, C z → z ≠ R) : Stays C w w' :=
  ⟨hg.size, fun b hb hl => hg.block b hl (fun e => hC b hb (Option.some.inj e))⟩

/-- What l4Type leaves. -/
def TypRet (R : Nat) (s : ByteArray) (k i : Nat) (w : World) (e : Ending) (w' : World) : Prop :=
  ∃ v t, e = .returned v ∧ TT w' (fun z => w.heap.size ≤ z) t v ∧ w.grownBy w' (some R) ∧
    ((∃ j, pty s.data.toList k i = some (t, j) ∧ Rd w' R s j false) ∨ (pty s.data.toList k i = none ∧ ∃ j, j ≤ s.size ∧ Rd w' R s j true))
theorem typ_fin {w W : World} {R i j k : Nat} {s : ByteArray} {bad : Bool} {t : Ty} {p : Value} (h : TP w R s j bad W) (hT : TS W (fun z => w.heap.size + 1 ≤ z) t.args p)
    (ho : (bad = false ∧ pty s.data.toList k i = some (t, j)) ∨ (bad = true ∧ pty s.data.toList k i = none ∧ j ≤ s.size)) :
    TypRet R s k i w (.returned (.agg #[.int .i64 t.kind, p])) ((W.setCell ⟨w.heap.size, 0, none⟩ (.int .i64 t.kind)).setCell ⟨w.heap.size, 1, none⟩ p) := by
  have hR := h.hR
  have hst : ∀ F : Nat → Prop, ¬ F w.heap.size → Stays F W ((W.setCell ⟨w.heap.size, 0, none⟩ (.int .i64 t.kind)).setCell ⟨w.heap.size, 1, none⟩ p) := fun F hF => (setCell_stays _ _ _ _ F hF).trans (setCell_stays _ _ _ _ F hF)
  have hrd : Rd ((W.setCell ⟨w.heap.size, 0, none⟩ (.int .i64 t.kind)).setCell ⟨w.heap.size, 1, none⟩ p) R s j bad := ((hst (fun z => z = R) (by omega)).2 R rfl h.rd.lt).trans h.rd
  have hbl : Below w.heap.size W ((W.setCell ⟨w.heap.size, 0, none⟩ (.int .i64 t.kind)).setCell ⟨w.heap.size, 1, none⟩ p) := ((Below.refl _ W).setCell (p := ⟨w.heap.size, 0, none⟩) (Nat.le_refl _) _).setCell (p := ⟨w.heap.size, 1, none⟩) (Nat.le_refl _) _
  refine ⟨_, t, rfl, ⟨p, rfl, (hT.stays (hst _ (by omega))).mono (fun z hz _ => by omega)⟩, ⟨hbl.os.trans h.grown.os, hbl.tape.trans h.grown.tape, hbl.output.trans h.grown.output, Nat.le_trans h.grown.size hbl.size, fun z hz hne => (hbl.block z hz).trans (h.grown.block z hz hne)⟩, ?_⟩
  rcases ho with ⟨rfl, h1⟩ | ⟨rfl, h1, h2⟩
  · exact Or.inl ⟨j, h1, hrd⟩
  · exact Or.inr ⟨h1, j, h2, hrd⟩
/-- The result's cell, ready to be written. -/
theorem TP.facts {w W : World} {R i : Nat} {s : ByteArray} {bad : Bool} (h : TP w R s i bad W) : W.cell? ⟨w.heap.size, 0, none⟩ = some (.int .i64 0) ∧ W.cell? ⟨w.heap.size, 1, none⟩ = some (.slice none 0 0) ∧ ∀ j, W.frozen? ⟨w.heap.size, j, none⟩ = false :=
  ⟨cell_of_blk h.r 0, cell_of_blk h.r 1, unfrozen_of_blk h.r⟩

theorem pty_1 {s : List UInt8} {k i : Nat} (h : s[i]? = some 73) : pty s (k + 1) i = some (.mk 1 [], i + 1) := by rw [pty, if_pos h]
theorem pty_2 {s : List UInt8} {k i : Nat} (h : s[i]? = some 66) : pty s (k + 1) i = some (.mk 2 [], i + 1) := by rw [pty, if_neg (by rw [h]; decide), if_pos h]
theorem pty_3 {s : List UInt8} {k i : Nat} (h : s[i]? = some 40) : pty s (k + 1) i = (ptys (pty s k) s [62, 41] (i + 1)).map fun r => (.mk 3 r.1, r.2) := by
  rw [pty, if_neg (by rw [h]; decide), if_neg (by rw [h]; decide), if_pos h]
theorem pty_4 {s : List UInt8} {k i : Nat} (h : s[i]? = some 60) : pty s (k + 1) i = (ptys (pty s k) s [62] (i + 1)).map fun r => (.mk 4 r.1, r.2) := by
  rw [pty, if_neg (by rw [h]; decide), if_neg (by rw [h]; decide), if_neg (by rw [h]; decide), if_pos h]
theorem pty_0 {s : List UInt8} {k i : Nat} (h1 : ¬ s[i]? = some 73) (h2 : ¬ s[i]? = some 66) (h3 : ¬ s[i]? = some 40) (h4 : ¬ s[i]? = some 60) : pty s (k + 1) i = none := by
  rw [pty, if_neg h1, if_neg h2, if_neg h3, if_neg h4]
theorem ptys0 {f : Nat → Option (Ty × Nat)} {s : List UInt8} {i : Nat} : ptys f s [] i = some ([], i) := rfl
theorem ptys1_none {f : Nat → Option (Ty × Nat)} {s es : List UInt8} {e : UInt8} {i : Nat} (h : f i = none) : ptys f s (e :: es) i = none := by simp only [ptys, h]
theorem ptys1_miss {f : Nat → Option (Ty × Nat)} {s es : List UInt8} {e : UInt8} {i j : Nat} {t : Ty} (h : f i = some (t, j)) (hc : ¬ s[j]? = some e) : ptys f s (e :: es) i = none := by simp only [ptys, h, if_neg hc]
theorem ptys1_hit {f : Nat → Option (Ty × Nat)} {s es : List UInt8} {e : UInt8} {i j : Nat} {t : Ty} (h : f i = some (t, j)) (hc : s[j]? = some e) : ptys f s (e :: es) i = (ptys f s es (j + 1)).map fun r => (t :: r.1, r.2) := by simp only [ptys, h, if_pos hc]
/-- A literal of one part, in a box. -/
theorem lit1 {w4 : World} {base : Nat} {t4 : Ty} {s4 : Value} (hs : TS w4 (fun z => base ≤ z) t4.args s4) (hb : base ≤ w4.heap.size) :
    Below w4.heap.size w4 ((w4.alloc (.cells #[.int .i64 t4.kind, s4] 26)).alloc (.cells #[.int .i64 4, .slice (some ⟨w4.heap.size, 0, none⟩) 1 1] 26)) ∧
    Bx ((w4.alloc (.cells #[.int .i64 t4.kind, s4] 26)).alloc (.cells #[.int .i64 4, .slice (some ⟨w4.heap.size, 0, none⟩) 1 1] 26)) (w4.heap.size + 1) 4 (.slice (some ⟨w4.heap.size, 0, none⟩) 1 1) ∧
    TS ((w4.alloc (.cells #[.int .i64 t4.kind, s4] 26)).alloc (.cells #[.int .i64 4, .slice (some ⟨w4.heap.size, 0, none⟩) 1 1] 26)) (fun z => base ≤ z) [t4] (.slice (some ⟨w4.heap.size, 0, none⟩) 1 1) := by
  have hG : Grow _ base (.slice (some ⟨w4.heap.size, 0, none⟩) 1 1) [(t4, s4)] := Grow.lit (W := w4) (cs := #[.int .i64 t4.kind, s4]) (n := 1) rfl rfl hb (by simp [maxLen]) (fun e he => by
    rw [List.mem_singleton] at he
    subst he
    exact hs)
  have hx := Bx.new (w4.alloc (.cells #[.int .i64 t4.kind, s4] 26)) 4 (.slice (some ⟨w4.heap.size, 0, none⟩) 1 1) 26
  rw [World.size_alloc] at hx
  exact ⟨(alloc_below _ _).trans ((alloc_below _ _).mono (by simp)), hx, hG.all.keep (alloc_below _ _)⟩
/-- A literal of two parts. -/
theorem lit2 {W : World} {base : Nat} {t u : Ty} {s1 s2 : Value} (h1 : TS W (fun z => base ≤ z) t.args s1) (h2 : TS W (fun z => base ≤ z) u.args s2) (hb : base ≤ W.heap.size) :
    TS (W.alloc (.cells #[.int .i64 t.kind, s1, .int .i64 u.kind, s2] 26)) (fun z => base ≤ z) [t, u] (.slice (some ⟨W.heap.size, 0, none⟩) 2 2) := by
  have hG : Grow _ base (.slice (some ⟨W.heap.size, 0, none⟩) 2 2) [(t, s1), (u, s2)] := Grow.lit (W := W) (cs := #[.int .i64 t.kind, s1, .int .i64 u.kind, s2]) (n := 2) rfl rfl hb (by simp [maxLen]) (fun e he => by
    rcases List.mem_cons.1 he with rfl | he
    · exact h1
    · rw [List.mem_singleton] at he
      subst he
      exact h2)
  exact hG.all
theorem Bx.grown {w w' : World} {b R : Nat} {k : Int} {s : Value} (h : Bx w b k s) (hg : w.grownBy w' (some R)) (hne : R ≠ b) : Bx w' b k s :=
  ⟨hg.cell h.1 (fun e => hne (Option.some.inj e).symm), hg.cell h.2 (fun e => hne (Option.some.inj e).symm)⟩
theorem bt_lt {s : ByteArray} {i : Nat} {c : UInt8} (h : bt s i = some c) : i + 1 ≤ s.size := by
  have := (List.getElem?_eq_some_iff.1 h).1
  have h : i < s.size := by simpa using this
  omega

set_option maxRecDepth 100000 in
set_option maxHeartbeats 1000000 in
theorem typ_deep (D : Int) (hD : 8 < D) (R : Nat) (s : ByteArray) (i : Nat) (w : World) (hi : i ≤ s.size) (hr : Rd w R s i false) :
    Calls Try.prog 76 #[.pointer (some ⟨R, 0, none⟩), .int .i64 D] w (TypRet R s 0 i w) := by
  have hT := TP.start hr
  obtain ⟨c0, c1, c2, z1, z2⟩ := hT.rd.cells
  have HT1 := Lib.hid (hT.set true)
  obtain ⟨d0, d1, d2, y1, y2⟩ := HT1.out.rd.cells
  obtain ⟨g0, g1, gz⟩ := HT1.out.facts
  clear hr hT
  go_enter Try.func76, Try.ntmps76
  go_wp2_with fail
  refine bodyPost_ret (v := .agg #[.int .i64 0, .slice none 0 0]) ?_ rfl ?_
  · rw [results_cell1 rfl]
    go_simp
  · exact typ_fin (t := .mk 0 []) HT1.out (.nil _ _) (Or.inr ⟨rfl, rfl, hi⟩)

set_option maxRecDepth 100000 in
set_option maxHeartbeats 2000000 in
theorem typ_step (k : Nat) (D : Int) (d8 : D ≤ 8) (d1 : 1 ≤ D) (R : Nat) (s : ByteArray) (hs : s.size ≤ 1073741824)
    (IH : ∀ (i : Nat) (W : World), i ≤ s.size → Rd W R s i false → Calls Try.prog 76 #[.pointer (some ⟨R, 0, none⟩), .int .i64 (D + 1)] W (TypRet R s k i W))
    (i : Nat) (w : World) (hi : i ≤ s.size) (hr : Rd w R s i false) :
    Calls Try.prog 76 #[.pointer (some ⟨R, 0, none⟩), .int .i64 D] w (TypRet R s (k + 1) i w) := by
  have hT := TP.start hr
  obtain ⟨c0, c1, c2, z1, z2⟩ := hT.rd.cells
  have HT0 := Lib.hid (hT.set false)
  have HIH := Lib.hid IH
  obtain ⟨d0, d1', d2, y1, y2⟩ := HT0.out.rd.cells
  have dd : decide (8 < D) = false := decide_eq_false (by omega)
  clear hr hT IH d0 d1' y1 y2
  go_enter Try.func76, Try.ntmps76
  go_wp2_with fail
  refine (take_or R s i 73 _ hs hi HT0.out.rd).mono ?_
  rintro e w1 (⟨h1, rfl, hr1, hg1⟩ | ⟨h1, rfl, hr1, hg1⟩)
  · have HT1 := Lib.hid (HT0.out.step hr1 hg1)
    have H1 := Lib.hid h1
    clear hr1 hg1 h1 c0 c1 c2 z1 z2 d2
    go_wp2_with fail
    refine (l3Int_any w1).mono ?_
    rintro e w2 ⟨rfl, hb2⟩
    have hT2 := HT1.out.below hb2
    obtain ⟨g0, g1, gz⟩ := hT2.facts
    have HT2 := Lib.hid hT2
    clear hb2 hT2
    go_wp2_with fail
    refine bodyPost_ret (v := .agg #[.int .i64 1, .slice none 0 0]) ?_ rfl ?_
    · rw [results_cell1 rfl]
      go_simp
    · exact typ_fin (t := .mk 1 []) HT2.out (.nil _ _) (Or.inl ⟨rfl, pty_1 H1.out⟩)
  have HT1 := Lib.hid (HT0.out.step hr1 hg1)
  have H1 := Lib.hid h1
  clear hr1 hg1 h1 c0 c1 c2 z1 z2 d2
  go_wp2_with fail
  refine (take_or R s i 66 _ hs hi HT1.out.rd).mono ?_
  rintro e w2 (⟨h2, rfl, hr2, hg2⟩ | ⟨h2, rfl, hr2, hg2⟩)
  · have HT2 := Lib.hid (HT1.out.step hr2 hg2)
    have H2 := Lib.hid h2
    clear hr2 hg2 h2
    go_wp2_with fail
    refine (l3Bool_any w2).mono ?_
    rintro e w3 ⟨rfl, hb3⟩
    have hT3 := HT2.out.below hb3
    obtain ⟨g0, g1, gz⟩ := hT3.facts
    have HT3 := Lib.hid hT3
    clear hb3 hT3
    go_wp2_with fail
    refine bodyPost_ret (v := .agg #[.int .i64 2, .slice none 0 0]) ?_ rfl ?_
    · rw [results_cell1 rfl]
      go_simp
    · exact typ_fin (t := .mk 2 []) HT3.out (.nil _ _) (Or.inl ⟨rfl, pty_2 H2.out⟩)
  have HT2 := Lib.hid (HT1.out.step hr2 hg2)
  have H2 := Lib.hid h2
  clear hr2 hg2 h2
  go_wp2_with fail
  refine (take_or R s i 60 _ hs hi HT2.out.rd).mono ?_
  rintro e w3 (⟨h3, rfl, hr3, hg3⟩ | ⟨h3, rfl, hr3, hg3⟩)
  · have HT3 := Lib.hid (HT2.out.step hr3 hg3)
    have H3 := Lib.hid h3
    have hi3 := bt_lt h3
    clear hr3 hg3 h3
    go_wp2_with fail
    refine (HIH.out (i + 1) w3 hi3 HT3.out.rd).mono ?_
    rintro e w4 ⟨v4, t4, rfl, ⟨s4, rfl, hs4⟩, hg4, ho4⟩
    obtain ⟨p4, c4, rfl⟩ := hs4.form
    have hlt := HT3.out.lt
    have hsz := hg4.size
    have hRl := HT3.out.hR
    obtain ⟨lb, lx, lts⟩ := lit1 (base := w.heap.size + 1) (hs4.mono (fun z hz _ => by show _ ≤ z; have : w3.heap.size ≤ z := hz; omega)) (by omega)
    have HLX := Lib.hid lx
    have HLT := Lib.hid lts
    have hne : R ≠ w4.heap.size + 1 := by omega
    rcases ho4 with ⟨j, hp, hrd⟩ | ⟨hp, j, hj, hrd⟩
    · have HT5 := Lib.hid ((HT3.out.step hrd hg4).below lb)
      have hj := (pty_good _ _ _ _ _ hp).le
      have HP := Lib.hid hp
      have hj' : j ≤ s.size := by simpa using hj
      clear hp hrd hg4 hs4 lb lx lts hj hsz hlt
      go_wp2_with fail
      refine (must_or R s j 62 _ hs hj' HT5.out.rd).mono ?_
      rintro e w6 (⟨h6, rfl, hr6, hg6⟩ | ⟨h6, rfl, hr6, hg6⟩)
      all_goals
        have hT6 := HT5.out.step hr6 hg6
        have HTS := Lib.hid (HLT.out.stays (stays_grown hg6 (fun z hz => by have : w.heap.size + 1 ≤ z := hz; omega)))
        obtain ⟨x0, x1⟩ := HLX.out.grown hg6 hne
        obtain ⟨g0, g1, gz⟩ := hT6.facts
        have HT6 := Lib.hid hT6
        have H6 := Lib.hid h6
        clear hr6 hg6 h6 hT6
        go_wp2_with fail
        refine bodyPost_ret (v := .agg #[.int .i64 4, .slice (some ⟨w4.heap.size, 0, none⟩) 1 1]) ?_ rfl ?_
        · rw [results_cell1 rfl]
          go_simp
        · first
          | exact typ_fin (t := .mk 4 [t4]) HT6.out HTS.out (Or.inl ⟨rfl, by rw [pty_4 H3.out, ptys1_hit HP.out H6.out, ptys0]; rfl⟩)
          | exact typ_fin (t := .mk 4 [t4]) HT6.out HTS.out (Or.inr ⟨rfl, by rw [pty_4 H3.out, ptys1_miss HP.out H6.out]; rfl, hj'⟩)
    · have HT5 := Lib.hid ((HT3.out.step hrd hg4).below lb)
      have HP := Lib.hid hp
      clear hp hrd hg4 hs4 lb lx lts hsz hlt
      go_wp2_with fail
      refine (must_bad R s j 62 _ HT5.out.rd).mono ?_
      rintro e w6 ⟨rfl, hr6, hg6⟩
      have hT6 := HT5.out.step hr6 hg6
      have HTS := Lib.hid (HLT.out.stays (stays_grown hg6 (fun z hz => by have : w.heap.size + 1 ≤ z := hz; omega)))
      obtain ⟨x0, x1⟩ := HLX.out.grown hg6 hne
      obtain ⟨g0, g1, gz⟩ := hT6.facts
      have HT6 := Lib.hid hT6
      clear hr6 hg6 hT6
      go_wp2_with fail
      refine bodyPost_ret (v := .agg #[.int .i64 4, .slice (some ⟨w4.heap.size, 0, none⟩) 1 1]) ?_ rfl ?_
      · rw [results_cell1 rfl]
        go_simp
      · exact typ_fin (t := .mk 4 [t4]) HT6.out HTS.out (Or.inr ⟨rfl, by rw [pty_4 H3.out, ptys1_none HP.out]; rfl, hj⟩)
  have HT3 := Lib.hid (HT2.out.step hr3 hg3)
  have H3 := Lib.hid h3
  clear hr3 hg3 h3
  go_wp2_with fail
  refine (must_or R s i 40 _ hs hi HT3.out.rd).mono ?_
  rintro e w4 (⟨h4, rfl, hr4, hg4⟩ | ⟨h4, rfl, hr4, hg4⟩)
  rotate_left
  · have hT4 := HT3.out.step hr4 hg4
    obtain ⟨c0, c1, c2, z1, z2⟩ := hr4.cells
    obtain ⟨g0, g1, gz⟩ := hT4.facts
    have HT4 := Lib.hid hT4
    have H4 := Lib.hid h4
    clear hT4 hr4 hg4 h4
    go_wp2_with fail
    refine bodyPost_ret (v := .agg #[.int .i64 0, .slice none 0 0]) ?_ rfl ?_
    · rw [results_cell1 rfl]
      go_simp
    · exact typ_fin (t := .mk 0 []) HT4.out (.nil _ _) (Or.inr ⟨rfl, pty_0 H1.out H2.out H4.out H3.out, hi⟩)
  have HT4 := Lib.hid (HT3.out.step hr4 hg4)
  obtain ⟨c0, c1, c2, z1, z2⟩ := hr4.cells
  have H4 := Lib.hid h4
  have hi4 := bt_lt h4
  clear hr4 hg4 h4
  go_wp2_with fail
  refine (HIH.out (i + 1) w4 hi4 HT4.out.rd).mono ?_
  rintro e w5 ⟨v5, t5, rfl, ⟨s5, rfl, hs5⟩, hg5, ho5⟩
  obtain ⟨p5, c5, rfl⟩ := hs5.form
  clear c0 c1 c2 z1 z2
  have hlt := HT4.out.lt
  have hsz := hg5.size
  have hRl := HT4.out.hR
  have hba := alloc_below w5 (.cells #[.int .i64 t5.kind, .slice p5 t5.args.length c5] 26)
  have HX5 := Lib.hid (Bx.new w5 t5.kind (.slice p5 t5.args.length c5) 26)
  have HS5 := Lib.hid ((hs5.mono (C' := fun z => w.heap.size + 1 ≤ z) (fun z hz _ => by have : w4.heap.size ≤ z := hz; omega)).keep hba)
  have hne5 : R ≠ w5.heap.size := by omega
  have LT5 := Lib.hid (show w.heap.size + 1 ≤ w5.heap.size by omega)
  have hC : ∀ z, w.heap.size + 1 ≤ z → z ≠ R := fun z hz => by omega
  have HC := Lib.hid hC
  rcases ho5 with ⟨j, hp, hrd⟩ | ⟨hp, j, hj, hrd⟩
  rotate_left
  · have HT5 := Lib.hid ((HT4.out.step hrd hg5).below hba)
    have HP := Lib.hid hp
    clear hp hrd hg5 hs5 hba hsz hlt hC
    go_wp2_with fail
    refine (must_bad R s j 62 _ HT5.out.rd).mono ?_
    rintro e w6 ⟨rfl, hr6, hg6⟩
    have hT6 := HT5.out.step hr6 hg6
    obtain ⟨c0, c1, c2, z1, z2⟩ := hr6.cells
    obtain ⟨g0, g1, gz⟩ := hT6.facts
    have HT6 := Lib.hid hT6
    clear hr6 hg6 hT6
    go_wp2_with fail
    refine bodyPost_ret (v := .agg #[.int .i64 0, .slice none 0 0]) ?_ rfl ?_
    · rw [results_cell1 rfl]
      go_simp
    · exact typ_fin (t := .mk 0 []) HT6.out (.nil _ _) (Or.inr ⟨rfl, by rw [pty_3 H4.out, ptys1_none HP.out]; rfl, hj⟩)
  have HT5 := Lib.hid ((HT4.out.step hrd hg5).below hba)
  have hj : j ≤ s.size := by have := (pty_good _ _ _ _ _ hp).le; simpa using this
  have HP := Lib.hid hp
  clear hp hrd hg5 hs5 hba hsz hlt hC
  go_wp2_with fail
  refine (must_or R s j 62 _ hs hj HT5.out.rd).mono ?_
  rintro e w6 (⟨h6, rfl, hr6, hg6⟩ | ⟨h6, rfl, hr6, hg6⟩)
  rotate_left
  · have hT6 := HT5.out.step hr6 hg6
    obtain ⟨c0, c1, c2, z1, z2⟩ := hr6.cells
    obtain ⟨g0, g1, gz⟩ := hT6.facts
    have HT6 := Lib.hid hT6
    have H6 := Lib.hid h6
    clear hr6 hg6 hT6 h6
    go_wp2_with fail
    refine bodyPost_ret (v := .agg #[.int .i64 0, .slice none 0 0]) ?_ rfl ?_
    · rw [results_cell1 rfl]
      go_simp
    · exact typ_fin (t := .mk 0 []) HT6.out (.nil _ _) (Or.inr ⟨rfl, by rw [pty_3 H4.out, ptys1_miss HP.out H6.out]; rfl, hj⟩)
  have HT6 := Lib.hid (HT5.out.step hr6 hg6)
  have HX6 := Lib.hid (HX5.out.grown hg6 hne5)
  have HS6 := Lib.hid (HS5.out.stays (stays_grown hg6 HC.out))
  obtain ⟨c0, c1, c2, z1, z2⟩ := hr6.cells
  have H6 := Lib.hid h6
  have hj6 := bt_lt h6
  clear hr6 hg6 h6
  go_wp2_with fail
  refine (HIH.out (j + 1) w6 hj6 HT6.out.rd).mono ?_
  rintro e w7 ⟨v7, t7, rfl, ⟨s7, rfl, hs7⟩, hg7, ho7⟩
  obtain ⟨p7, c7, rfl⟩ := hs7.form
  clear c0 c1 c2 z1 z2
  have hlt := HT6.out.lt
  have hsz := hg7.size
  have hba := alloc_below w7 (.cells #[.int .i64 t7.kind, .slice p7 t7.args.length c7] 26)
  have HX7 := Lib.hid (Bx.new w7 t7.kind (.slice p7 t7.args.length c7) 26)
  have HS7 := Lib.hid ((hs7.mono (C' := fun z => w.heap.size + 1 ≤ z) (fun z hz _ => by have : w6.heap.size ≤ z := hz; omega)).keep hba)
  have HX67 := Lib.hid ((HX6.out.grown hg7 hne5).keep hba)
  have HS67 := Lib.hid ((HS6.out.stays (stays_grown hg7 HC.out)).keep hba)
  have hne7 : R ≠ w7.heap.size := by omega
  have LT7 := Lib.hid (show w.heap.size + 1 ≤ w7.heap.size by omega)
  rcases ho7 with ⟨n, hp7, hrd⟩ | ⟨hp7, n, hn, hrd⟩
  · have HT7 := Lib.hid ((HT6.out.step hrd hg7).below hba)
    have hn : n ≤ s.size := by have := (pty_good _ _ _ _ _ hp7).le; simpa using this
    have HP7 := Lib.hid hp7
    clear hp7 hrd hg7 hs7 hba hsz hlt
    go_wp2_with fail
    refine (must_or R s n 41 _ hs hn HT7.out.rd).mono ?_
    rintro e w8 (⟨h8, rfl, hr8, hg8⟩ | ⟨h8, rfl, hr8, hg8⟩)
    all_goals
      have hT8 := HT7.out.step hr8 hg8
      obtain ⟨x0, x1⟩ := HX67.out.grown hg8 hne5
      obtain ⟨y0, y1⟩ := HX7.out.grown hg8 hne7
      obtain ⟨f0, f1, gz⟩ := hT8.facts
      have g0 := al_cell f0
      have g1 := al_cell f1
      have gz := al_frz hT8.r
      have HT8 := Lib.hid hT8
      have H8 := Lib.hid h8
      have LT8 := Lib.hid (show w.heap.size + 1 ≤ w8.heap.size by have := hT8.lt; omega)
      have HTS := Lib.hid (lit2 (base := w.heap.size + 1) (HS67.out.stays (stays_grown hg8 HC.out)) (HS7.out.stays (stays_grown hg8 HC.out)) LT8.out)
      clear hr8 hg8 h8 hT8 f0 f1
      go_wp2_with fail
      refine bodyPost_ret (v := .agg #[.int .i64 3, .slice (some ⟨w8.heap.size, 0, none⟩) 2 2]) ?_ rfl ?_
      · rw [results_cell1 rfl]
        go_simp
      · first
        | exact typ_fin (t := .mk 3 [t5, t7]) (HT8.out.below (alloc_below _ _)) HTS.out (Or.inl ⟨rfl, by rw [pty_3 H4.out, ptys1_hit HP.out H6.out, ptys1_hit HP7.out H8.out, ptys0]; rfl⟩)
        | exact typ_fin (t := .mk 3 [t5, t7]) (HT8.out.below (alloc_below _ _)) HTS.out (Or.inr ⟨rfl, by rw [pty_3 H4.out, ptys1_hit HP.out H6.out, ptys1_miss HP7.out H8.out]; rfl, hn⟩)
  · have HT7 := Lib.hid ((HT6.out.step hrd hg7).below hba)
    have HP7 := Lib.hid hp7
    clear hp7 hrd hg7 hs7 hba hsz hlt
    go_wp2_with fail
    refine (must_bad R s n 41 _ HT7.out.rd).mono ?_
    rintro e w8 ⟨rfl, hr8, hg8⟩
    have hT8 := HT7.out.step hr8 hg8
    obtain ⟨x0, x1⟩ := HX67.out.grown hg8 hne5
    obtain ⟨y0, y1⟩ := HX7.out.grown hg8 hne7
    obtain ⟨f0, f1, gz⟩ := hT8.facts
    have g0 := al_cell f0
    have g1 := al_cell f1
    have gz := al_frz hT8.r
    have HT8 := Lib.hid hT8
    have LT8 := Lib.hid (show w.heap.size + 1 ≤ w8.heap.size by have := hT8.lt; omega)
    have HTS := Lib.hid (lit2 (base := w.heap.size + 1) (HS67.out.stays (stays_grown hg8 HC.out)) (HS7.out.stays (stays_grown hg8 HC.out)) LT8.out)
    clear hr8 hg8 hT8 f0 f1
    go_wp2_with fail
    refine bodyPost_ret (v := .agg #[.int .i64 3, .slice (some ⟨w8.heap.size, 0, none⟩) 2 2]) ?_ rfl ?_
    · rw [results_cell1 rfl]
      go_simp
    · exact typ_fin (t := .mk 3 [t5, t7]) (HT8.out.below (alloc_below _ _)) HTS.out (Or.inr ⟨rfl, by rw [pty_3 H4.out, ptys1_hit HP.out H6.out, ptys1_none HP7.out]; rfl, hn⟩)

/-- THE MODEL's l4Type, k deep at most. -/
theorem typ_any (R : Nat) (s : ByteArray) (hs : s.size ≤ 1073741824) : ∀ (k : Nat), k ≤ 8 → ∀ (i : Nat) (W : World), i ≤ s.size → Rd W R s i false →
    Calls Try.prog 76 #[.pointer (some ⟨R, 0, none⟩), .int .i64 (9 - (k : Int))] W (TypRet R s k i W)
  | 0, _, i, W, hi, hr => typ_deep _ (by omega) R s i W hi hr
  | k + 1, hk, i, W, hi, hr => typ_step k _ (by omega) (by omega) R s hs (fun i W hi hr => by
      have := typ_any R s hs k (by omega) i W hi hr
      rwa [show (9 - (k : Int)) = 9 - ((k + 1 : Nat) : Int) + 1 by omega] at this) i W hi hr
end Go.Proofs.Ytnciibngcaajgaa

