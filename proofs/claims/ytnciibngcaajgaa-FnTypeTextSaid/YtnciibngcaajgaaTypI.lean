/-
  The contract of the program's typeAt, by how deep a type may still be.
-/
import Derived.Test.YtnciibngcaajgaaParI
import Derived.Test.YtnciibngcaajgaaTypS2
namespace Go.Proofs.Ytnciibngcaajgaa
open Go Go.RowKit

/-- While a type is read: what the closures share, the result's cell as it was. -/
structure TI (w : World) (B : Nat) (s : ByteArray) (i : Nat) (W : World) : Prop where
  cl : Cl B s i W
  grown : w.grownBy W (some (B + 2))
  r : W.heap[w.heap.size]? = some (.cells #[.int .i64 0, .slice none 0 0] 26 (0, 0))
  hB : B + 5 < w.heap.size
section
variable {w W W' : World} {B i j k : Nat} {s : ByteArray}
theorem TI.lt (h : TI w B s i W) : w.heap.size < W.heap.size := (Array.getElem?_eq_some_iff.1 h.r).1
theorem TI.step (h : TI w B s i W) (hc : Cl B s j W') (hg : W.grownBy W' (some (B + 2))) : TI w B s j W' :=
  ⟨hc, grownBy_trans h.grown hg, (hg.block _ h.lt (fun e => by have := Option.some.inj e; have := h.hB; omega)).trans h.r, h.hB⟩
theorem TI.start (h : Cl B s i w) : TI w B s i (w.alloc (.cells #[.int .i64 0, .slice none 0 0] 26)) :=
  ⟨h.below (alloc_below _ _), World.grownBy_alloc _ _ _, blk_new w _, h.lt⟩
theorem TI.facts (h : TI w B s i W) : (W.cell? ⟨w.heap.size, 0, none⟩ = some (.int .i64 0) ∧ W.cell? ⟨w.heap.size, 1, none⟩ = some (.slice none 0 0) ∧ ∀ j, W.frozen? ⟨w.heap.size, j, none⟩ = false) ∧ W.cell? ⟨B + 3, 0, none⟩ = some (fAcc B) ∧ W.cell? ⟨B + 5, 0, none⟩ = some (fPar B) :=
  ⟨⟨cell_of_blk h.r 0, cell_of_blk h.r 1, unfrozen_of_blk h.r⟩, cell_of_blk h.cl.bf 0, cell_of_blk h.cl.bp 0⟩
theorem at_end (h : TI w B s j W) (q : Int) (v : Value) :
    w.grownBy ((W.setCell ⟨w.heap.size, 0, none⟩ (.int .i64 q)).setCell ⟨w.heap.size, 1, none⟩ v) (some (B + 2)) ∧ Cl B s j ((W.setCell ⟨w.heap.size, 0, none⟩ (.int .i64 q)).setCell ⟨w.heap.size, 1, none⟩ v) := by
  have hbl : Below w.heap.size W ((W.setCell ⟨w.heap.size, 0, none⟩ (.int .i64 q)).setCell ⟨w.heap.size, 1, none⟩ v) := ((Below.refl _ W).setCell (p := ⟨w.heap.size, 0, none⟩) (Nat.le_refl _) _).setCell (p := ⟨w.heap.size, 1, none⟩) (Nat.le_refl _) _
  exact ⟨grown_more h.grown (Nat.le_refl _) hbl, h.cl.belowAt (by have := h.hB; omega) hbl⟩
theorem at_no (h : TI w B s j W) (hj : j ≤ s.size) (hp : pty s.data.toList k i = none) (q : Int) :
    AtRet B s k i w (.returned (.tuple #[.agg #[.int .i64 q, .slice none 0 0], .bool false])) ((W.setCell ⟨w.heap.size, 0, none⟩ (.int .i64 q)).setCell ⟨w.heap.size, 1, none⟩ (.slice none 0 0)) := by
  obtain ⟨h1, h2⟩ := at_end h q (.slice none 0 0)
  exact ⟨h1, .mk q [], none, 0, Or.inr ⟨hp, rfl, j, hj, h2⟩⟩
theorem at_no0 (h : TI w B s j W) (hj : j ≤ s.size) (hp : pty s.data.toList k i = none) : AtRet B s k i w (.returned (.tuple #[.agg #[.int .i64 0, .slice none 0 0], .bool false])) W :=
  ⟨h.grown, .mk 0 [], none, 0, Or.inr ⟨hp, rfl, j, hj, h.cl⟩⟩
theorem at_yes (h : TI w B s j W) {q : Int} {ts : List Ty} {p : Option Addr} {c : Nat} (hp : pty s.data.toList k i = some (.mk q ts, j)) (ho : OS W ts (.slice p ts.length c) (fun z => w.heap.size + 1 ≤ z ∧ z < W.heap.size)) :
    AtRet B s k i w (.returned (.tuple #[.agg #[.int .i64 q, .slice p ts.length c], .bool true])) ((W.setCell ⟨w.heap.size, 0, none⟩ (.int .i64 q)).setCell ⟨w.heap.size, 1, none⟩ (.slice p ts.length c)) := by
  obtain ⟨h1, h2⟩ := at_end h q (.slice p ts.length c)
  refine ⟨h1, .mk q ts, p, c, Or.inl ⟨j, hp, rfl, ?_, h2⟩⟩
  refine (ho.stays ((setCell_stays _ _ _ _ _ (by omega)).trans (setCell_stays _ _ _ _ _ (by omega)))).mono (fun z hz => ?_)
  have : ((W.setCell ⟨w.heap.size, 0, none⟩ (.int .i64 q)).setCell ⟨w.heap.size, 1, none⟩ (.slice p ts.length c)).heap.size = W.heap.size := by simp [World.setCell]
  omega
end

set_option maxRecDepth 100000 in
set_option maxHeartbeats 1000000 in
theorem at_deep (B : Nat) (s : ByteArray) (D : Int) (hD : 8 < D) (i : Nat) (w : World) (hi : i ≤ s.size) (h : Cl B s i w) :
    Calls Try.prog 100 #[.int .i64 D, .pointer (some ⟨B + 3, 0, none⟩), .pointer (some ⟨B + 5, 0, none⟩)] w (AtRet B s 0 i w) := by
  have hT := TI.start h
  obtain ⟨⟨g0, g1, gz⟩, _, _⟩ := hT.facts
  have HT := Lib.hid hT
  clear h hT
  go_enter Try.func100, Try.ntmps100
  go_wp2_with fail
  refine bodyPost_ret (v := .tuple #[.agg #[.int .i64 0, .slice none 0 0], .bool false]) ?_ rfl ?_
  · rw [results_cs rfl]
    go_simp
  · exact at_no0 HT.out hi (show pty s.data.toList 0 i = none from rfl)

set_option maxRecDepth 100000 in
set_option maxHeartbeats 2000000 in
theorem at_step (B : Nat) (s : ByteArray) (hs : s.size ≤ 1073741824) (k : Nat) (D : Int) (d8 : D ≤ 8) (d1 : 1 ≤ D)
    (P : ∀ (es : ByteArray), es.size ≤ 2 → ∀ (i : Nat) (W : World), i ≤ s.size → Cl B s i W →
      Calls Try.prog 99 #[.string es, .int .i64 (D + 1), .pointer (some ⟨B + 4, 0, none⟩), .pointer (some ⟨B + 3, 0, none⟩)] W (ParRet B s k i es.data.toList W))
    (i : Nat) (w : World) (hi : i ≤ s.size) (h : Cl B s i w) :
    Calls Try.prog 100 #[.int .i64 D, .pointer (some ⟨B + 3, 0, none⟩), .pointer (some ⟨B + 5, 0, none⟩)] w (AtRet B s (k + 1) i w) := by
  have hT := TI.start h
  obtain ⟨_, c0, _⟩ := hT.facts
  have HT0 := Lib.hid hT
  have HP := Lib.hid P
  have dd : decide (8 < D) = false := decide_eq_false (by omega)
  clear h hT P
  go_enter Try.func100, Try.ntmps100
  go_wp2_with fail
  refine (acc_any B s i 73 73 rfl _ hs hi HT0.out.cl).mono ?_
  rintro e w1 (⟨h1, rfl, hc1, hg1⟩ | ⟨h1, rfl, hc1, hg1⟩)
  · have hT1 := HT0.out.step hc1 hg1
    obtain ⟨⟨g0, g1, gz⟩, _, _⟩ := hT1.facts
    have HT1 := Lib.hid hT1
    have H1 := Lib.hid h1
    clear hc1 hg1 h1 hT1 c0
    go_wp2_with fail
    refine bodyPost_ret (v := .tuple #[.agg #[.int .i64 1, .slice none 0 0], .bool true]) ?_ rfl ?_
    · rw [results_cs rfl]
      go_simp
    · exact at_yes (ts := []) HT1.out (pty_1 H1.out) (.none _)
  have hT1 := HT0.out.step hc1 hg1
  clear c0
  obtain ⟨_, c0, _⟩ := hT1.facts
  have HT1 := Lib.hid hT1
  have H1 := Lib.hid h1
  clear hc1 hg1 h1 hT1
  go_wp2_with fail
  refine (acc_any B s i 66 66 rfl _ hs hi HT1.out.cl).mono ?_
  rintro e w2 (⟨h2, rfl, hc2, hg2⟩ | ⟨h2, rfl, hc2, hg2⟩)
  · have hT2 := HT1.out.step hc2 hg2
    obtain ⟨⟨g0, g1, gz⟩, _, _⟩ := hT2.facts
    have HT2 := Lib.hid hT2
    have H2 := Lib.hid h2
    clear hc2 hg2 h2 hT2 c0
    go_wp2_with fail
    refine bodyPost_ret (v := .tuple #[.agg #[.int .i64 2, .slice none 0 0], .bool true]) ?_ rfl ?_
    · rw [results_cs rfl]
      go_simp
    · exact at_yes (ts := []) HT2.out (pty_2 H2.out) (.none _)
  have hT2 := HT1.out.step hc2 hg2
  clear c0
  obtain ⟨_, c0, _⟩ := hT2.facts
  have HT2 := Lib.hid hT2
  have H2 := Lib.hid h2
  clear hc2 hg2 h2 hT2
  go_wp2_with fail
  refine (acc_any B s i 40 40 rfl _ hs hi HT2.out.cl).mono ?_
  rintro e w3 (⟨h3, rfl, hc3, hg3⟩ | ⟨h3, rfl, hc3, hg3⟩)
  · have hT3 := HT2.out.step hc3 hg3
    obtain ⟨_, _, c5⟩ := hT3.facts
    have HT3 := Lib.hid hT3
    have H3 := Lib.hid h3
    have hi3 := bt_lt h3
    clear hc3 hg3 h3 hT3 c0
    go_wp2_with fail
    refine (HP.out ⟨#[62, 41]⟩ (by decide) (i + 1) w3 hi3 HT3.out.cl).mono ?_
    rintro e w4 ⟨hg4, v4, ho4⟩
    have hlt := HT3.out.lt
    rcases ho4 with ⟨ts, j, hp, rfl, hos, hcl⟩ | ⟨hp, rfl, rfl, j, hj, hcl⟩
    · obtain ⟨p4, c4, rfl⟩ := hos.form
      have hT4 := HT3.out.step hcl hg4
      obtain ⟨⟨g0, g1, gz⟩, _, _⟩ := hT4.facts
      have HT4 := Lib.hid hT4
      have HP4 := Lib.hid hp
      have HO4 := Lib.hid (hos.mono (F' := fun z => w.heap.size + 1 ≤ z ∧ z < w4.heap.size) (fun z hz => ⟨by omega, hz.2⟩))
      clear hp hos hcl hg4 hT4 c5
      go_wp2_with fail
      refine bodyPost_ret (v := .tuple #[.agg #[.int .i64 3, .slice p4 ts.length c4], .bool true]) ?_ rfl ?_
      · rw [results_cs rfl]
        go_simp
      · exact at_yes HT4.out (by rw [pty_3 H3.out]; exact congrArg _ HP4.out) HO4.out
    · have hT4 := HT3.out.step hcl hg4
      obtain ⟨⟨g0, g1, gz⟩, _, _⟩ := hT4.facts
      have HT4 := Lib.hid hT4
      have HP4 := Lib.hid hp
      clear hp hcl hg4 hT4 c5
      go_wp2_with fail
      refine bodyPost_ret (v := .tuple #[.agg #[.int .i64 3, .slice none 0 0], .bool false]) ?_ rfl ?_
      · rw [results_cs rfl]
        go_simp
      · exact at_no HT4.out hj (by rw [pty_3 H3.out]; exact congrArg _ HP4.out) 3
  have hT3 := HT2.out.step hc3 hg3
  clear c0
  obtain ⟨_, c0, _⟩ := hT3.facts
  have HT3 := Lib.hid hT3
  have H3 := Lib.hid h3
  clear hc3 hg3 h3 hT3
  go_wp2_with fail
  refine (acc_any B s i 60 60 rfl _ hs hi HT3.out.cl).mono ?_
  rintro e w4 (⟨h4, rfl, hc4, hg4⟩ | ⟨h4, rfl, hc4, hg4⟩)
  · have hT4 := HT3.out.step hc4 hg4
    obtain ⟨_, _, c5⟩ := hT4.facts
    have HT4 := Lib.hid hT4
    have H4 := Lib.hid h4
    have hi4 := bt_lt h4
    clear hc4 hg4 h4 hT4 c0
    go_wp2_with fail
    refine (HP.out ⟨#[62]⟩ (by decide) (i + 1) w4 hi4 HT4.out.cl).mono ?_
    rintro e w5 ⟨hg5, v5, ho5⟩
    have hlt := HT4.out.lt
    rcases ho5 with ⟨ts, j, hp, rfl, hos, hcl⟩ | ⟨hp, rfl, rfl, j, hj, hcl⟩
    · obtain ⟨p5, q5, rfl⟩ := hos.form
      have hT5 := HT4.out.step hcl hg5
      obtain ⟨⟨g0, g1, gz⟩, _, _⟩ := hT5.facts
      have HT5 := Lib.hid hT5
      have HP5 := Lib.hid hp
      have HO5 := Lib.hid (hos.mono (F' := fun z => w.heap.size + 1 ≤ z ∧ z < w5.heap.size) (fun z hz => ⟨by omega, hz.2⟩))
      clear hp hos hcl hg5 hT5 c5
      go_wp2_with fail
      refine bodyPost_ret (v := .tuple #[.agg #[.int .i64 4, .slice p5 ts.length q5], .bool true]) ?_ rfl ?_
      · rw [results_cs rfl]
        go_simp
      · exact at_yes HT5.out (by rw [pty_4 H4.out]; exact congrArg _ HP5.out) HO5.out
    · have hT5 := HT4.out.step hcl hg5
      obtain ⟨⟨g0, g1, gz⟩, _, _⟩ := hT5.facts
      have HT5 := Lib.hid hT5
      have HP5 := Lib.hid hp
      clear hp hcl hg5 hT5 c5
      go_wp2_with fail
      refine bodyPost_ret (v := .tuple #[.agg #[.int .i64 4, .slice none 0 0], .bool false]) ?_ rfl ?_
      · rw [results_cs rfl]
        go_simp
      · exact at_no HT5.out hj (by rw [pty_4 H4.out]; exact congrArg _ HP5.out) 4
  have hT4 := HT3.out.step hc4 hg4
  clear c0
  obtain ⟨⟨g0, g1, gz⟩, _, _⟩ := hT4.facts
  have HT4 := Lib.hid hT4
  have H4 := Lib.hid h4
  clear hc4 hg4 h4 hT4
  go_wp2_with fail
  refine bodyPost_ret (v := .tuple #[.agg #[.int .i64 0, .slice none 0 0], .bool false]) ?_ rfl ?_
  · rw [results_cs rfl]
    go_simp
  · exact at_no HT4.out hi (pty_0 H1.out H2.out H3.out H4.out) 0

/-- THE PROGRAM's typeAt, k deep at most. -/
theorem at_any (B : Nat) (s : ByteArray) (hs : s.size ≤ 1073741824) : ∀ (k : Nat), k ≤ 8 → ∀ (i : Nat) (W : World), i ≤ s.size → Cl B s i W →
    Calls Try.prog 100 #[.int .i64 (9 - (k : Int)), .pointer (some ⟨B + 3, 0, none⟩), .pointer (some ⟨B + 5, 0, none⟩)] W (AtRet B s k i W)
  | 0, _, i, W, hi, h => at_deep B s _ (by omega) i W hi h
  | k + 1, hk, i, W, hi, h => at_step B s hs k _ (by omega) (by omega) (fun es he i W hi h => by
      rw [show 9 - ((k + 1 : Nat) : Int) + 1 = (9 - (k : Int)) by omega]
      exact par_step B s k _ hs (fun i W hi h => at_any B s hs k (by omega) i W hi h) es he i W hi h) i W hi h
end Go.Proofs.Ytnciibngcaajgaa

