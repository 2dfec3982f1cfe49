/-
  Several texts of the proof in one (each says below what it holds): TmDrawn TmDrawn2 Bent TmBent.
-/
import Derived.Test.YtnciibngcaajgaaDoorH9
import Derived.Test.YtnciibngcaajgaaDoorH3
import Derived.Deep.RegionHeldLaw
import Derived.IntWalk
/- TmDrawn: The contract of the draws' l5Any: a term that need not have a type (genany.py writes this text). -/
namespace Go.Proofs.YtnciibngcaajgaaDoor
open Go Go.RowKit

theorem leaf_draw {w W : World} {b m : Nat} (h : RdyM w b W) (hbw : b < w.heap.size) (k : Int) (s : ByteArray) (n : Int) (hs : s.size ≤ m) :
    DrawM m b w (.returned (leafV k s n)) (setN W w.heap.size 0 [.int .i64 k, .string s, .string ⟨#[]⟩, .int .i64 n, .int .i64 0, .slice none 0 0, .int .i64 0, .slice none 0 0, .slice none 0 0]) :=
  have hf := h.fin hbw _
  ⟨leaf k s n, none, 0, none, 0, none, 0, [], rfl, by simp [Tm.wt, wtS, nodesS]; exact hs, leaf_new _ _ _ _ _ _, hf.1, hf.2.1⟩
theorem wt_of {k n : Int} {a o : ByteArray} {ty res : Ty} {ts : List Tm} {m j : Nat} (ha : a.size ≤ 1) (ho : o.size ≤ 1) (h1 : ty.nodes + 1 ≤ 4) (h2 : res.nodes + 1 ≤ 4) (hj : j ≤ 3) (hw : wtS ts ≤ j * (m + 1)) : (Tm.mk k a o n ty res ts).wt ≤ 3 * m + 9 := by
  rw [ty.nodes_eq] at h1
  rw [res.nodes_eq] at h2
  have : j * (m + 1) ≤ 3 * (m + 1) := Nat.mul_le_mul_right _ hj
  simp only [Tm.wt]
  omega
theorem InBox.of {w W : World} {bx z : Nat} (h1 : w.heap.size + 1 ≤ bx) (h2 : bx < W.heap.size) (hz : W.heap.size ≤ z) : InBox w bx z := ⟨by omega, by omega⟩

set_option maxRecDepth 100000 in
set_option maxHeartbeats 8000000 in
theorem anyM_step (m : Nat) (D : Int) (hD0 : 2 ≤ D) (hD : D ≤ 4) (hm : m ≤ 1000)
    (IH : ∀ (b : Nat) (W : World), Cur W b → Calls Tryd.prog 48 #[.pointer (some ⟨b, 0, none⟩), .int .i64 (D - 1)] W (DrawM m b W)) (b : Nat) (w : World) (hc : Cur w b) :
    Calls Tryd.prog 48 #[.pointer (some ⟨b, 0, none⟩), .int .i64 D] w (DrawM (3 * m + 9) b w) := by
  obtain ⟨i0, hi, hz0, hz1, hz2⟩ := info_parts infoTm
  have hbw := hc.lt
  have HR0 := Lib.hid (RdyM.start hc)
  have HIH := Lib.hid IH
  have HWR := Lib.hid (show IntKind.i64.wrap (D - 1) = D - 1 from IntWalk.i64_in _ (by omega))
  clear hc IH
  go_enter Tryd.func48, Tryd.ntmps48
  go_wp2_with fail
  refine (once_any b 5 _ (by decide) (by decide) HR0.out.cur).mono ?_
  rintro e w1 ⟨q, rfl, hc1, hg1⟩
  have HR1 := Lib.hid (HR0.out.step hbw hc1 hg1)
  clear hc1 hg1
  cases q with
  | true =>
    go_wp2_with fail
    refine (leafM_any b w1 HR1.out.cur).mono ?_
    rintro e w2 ⟨k, s, n, rfl, hs, hc2, hg2⟩
    have hr2 := HR1.out.step hbw hc2 hg2
    have HR2 := Lib.hid hr2
    obtain ⟨⟨g0, g1, g2, g3, g4, g5, g6, g7, g8⟩, gz⟩ := hr2.facts
    clear hr2 hc2 hg2
    go_wp2_with fail
    refine bodyPost_ret (v := leafV k s n) ?_ rfl ?_
    · rw [results_cell1 rfl]
      go_simp
    · have := leaf_draw (m := 3 * m + 9) HR2.out hbw k s n (by omega)
      rw [setN9] at this
      exact this
  | false =>
    go_wp2_with fail
    refine (pickInt_litG [4, 5, 6, 7, 8, 9, 10, 11, 12, 13, 10, 4] 12 b w1 _ rfl (by decide) (by decide) rfl HR1.out.cur).mono ?_
    rintro e w2 ⟨y, hy, rfl, hc2, hg2⟩
    have hr2 := HR1.out.step hbw hc2 hg2
    have HR2 := Lib.hid hr2
    have hlt2 := hr2.lt
    have HBX0 := Lib.hid (show BoxM w b w2.heap.size (w2.alloc (.cells #[.int .i64 y, .string ⟨#[]⟩, .string ⟨#[]⟩, .int .i64 0, .int .i64 0, .slice none 0 0, .int .i64 0, .slice none 0 0, .slice none 0 0] 29)) (.mk y ⟨#[]⟩ ⟨#[]⟩ 0 (.mk 0 []) (.mk 0 []) []) none 0 none 0 none 0 [] from
      ⟨hr2.below (al_below _ _), blk_new w2 _, ⟨.nil _ _, .nil _ _, RowM.start _ _ _⟩, by omega⟩)
    have HY := Lib.hid hy
    clear hr2 hc2 hg2 hy
    rcases (show y = 4 ∨ y = 6 ∨ y = 8 ∨ y = 9 ∨ (y ≠ 4 ∧ y ≠ 6 ∧ y ≠ 8 ∧ y ≠ 9) by omega) with rfl | rfl | rfl | rfl | ⟨y4, y6, y8, y9⟩
    · skip
      have hp3 := pickS_litG [⟨#[43]⟩, ⟨#[45]⟩, ⟨#[42]⟩, ⟨#[61]⟩, ⟨#[60]⟩, ⟨#[38]⟩, ⟨#[124]⟩, ⟨#[33]⟩] 8 b _ #[.string ⟨#[43]⟩, .string ⟨#[45]⟩, .string ⟨#[42]⟩, .string ⟨#[61]⟩, .string ⟨#[60]⟩, .string ⟨#[38]⟩, .string ⟨#[124]⟩, .string ⟨#[33]⟩] rfl (by decide) (by decide) rfl HBX0.out.rdy.cur
      rw [World.size_alloc] at hp3
      have HP3 := Lib.hid hp3
      clear hp3
      go_wp2_with fail
      refine HP3.out.mono ?_
      rintro e w3 ⟨a, ha, rfl, hc3, hg3⟩
      have HSa := Lib.hid (show a.size ≤ 1 by simp at ha; rcases ha with rfl | rfl | rfl | rfl | rfl | rfl | rfl | rfl <;> decide)
      have hbx3 := HBX0.out.step hbw hc3 hg3
      have HBX3 := Lib.hid hbx3
      clear ha hc3 hg3 HP3
      obtain ⟨⟨g0, g1, g2, g3, g4, g5, g6, g7, g8⟩, gz⟩ := hbx3.facts
      clear hbx3
      have HBA := Lib.hid (HBX3.out.setName hbw a)
      go_wp2_with fail
      refine (arityS_any (.mk 4 a ⟨#[]⟩ 0 (.mk 0 []) (.mk 0 []) []) none 0 none 0 none 0 _).mono ?_
      rintro e w5 ⟨rfl, hb5⟩
      have HBX5 := Lib.hid (HBA.out.below hb5)
      obtain ⟨N, hN⟩ : ∃ N, (Tm.mk 4 a ⟨#[]⟩ 0 (.mk 0 []) (.mk 0 []) []).arity = N := ⟨_, rfl⟩
      have hr : -1 ≤ N ∧ N ≤ 3 := hN ▸ arK_range _ _ (opAr_range _)
      obtain ⟨hr0, hr3⟩ := hr
      rw [hN]
      clear hN hb5 g0 g1 g2 g3 g4 g5 g6 g7 g8 gz
      go_wp2_with fail
      go_loopw [7] (fun i wr => ∃ (j : Nat) (ts : List Tm) (p : Option Addr) (c : Nat) (xs : List Value), ((j : Int) ≤ N ∨ j = 0) ∧ i = .int .i64 j ∧ ts.length = j ∧ wtS ts ≤ j * (m + 1) ∧ BoxM w b w2.heap.size wr (.mk 4 a ⟨#[]⟩ 0 (.mk 0 []) (.mk 0 []) ts) none 0 none 0 p c xs) (fun i _ => N.toNat - (intOf i).toNat)
      case atStart => exact ⟨0, [], none, 0, [], Or.inr rfl, rfl, rfl, by simp [wtS], HBX5.out⟩
      case round =>
        obtain ⟨j, ts, p, c, xs, hj, rfl, hl, hw, hb⟩ := hrel
        obtain ⟨⟨g0, g1, g2, g3, g4, g5, g6, g7, g8⟩, gz⟩ := hb.facts
        have HB := Lib.hid hb
        have HWT := Lib.hid hw
        have HL := Lib.hid hl
        have hl3 : ts.length ≤ 3 := by omega
        have j0 : (0 : Int) ≤ (j : Int) := Int.natCast_nonneg _
        have j3 : j ≤ 3 := by omega
        clear hw hl
        by_cases hlt : (j : Int) < N
        · have hbd := hb.below (Below.refl _ wr).drew
          have HBD := Lib.hid hbd
          have hiw := HIH.out b wr.drew hbd.rdy.cur
          rw [← HWR.out] at hiw
          have HIW := Lib.hid hiw
          clear hiw
          clear hb hbd
          go_wp2_with fail
          go_region_law (first
            | (refine step_app1 (w0 := w6) (v := .slice p ts.length c) (n := ts.length) (xs := xs) rfl (.tmp 65) (.tmp 70) rfl Tryd.underlying27 hi hz0 hz1 hz2 rfl (by decide) rfl HB6.out.new.row.own _ rfl (by simp) rfl (fun u hu => by simp at hu; rcases hu with rfl | rfl | rfl | rfl | rfl | rfl | rfl | rfl | rfl <;> rfl) (by unfold maxLen; omega) (by omega) (by have := HB6.out.bxlt; have := HB6.out.lt; omega) ?_; intro w' g2' cap2 hA; have d6b := (hA.kept w2.heap.size HB6.out.bxlt (fun e => (HB6.out.new.row.blk _ e).2 rfl)).1.trans HB6.out.box; have d6 : w'.cell? ⟨w2.heap.size, 8, none⟩ = some (.slice p ts.length c) := cell_of_blk d6b 8; have d6z := unfrozen_of_blk d6b)
            | (go_simp; go_at_call 48; refine HIW.out.mono ?_; rintro e w6 ⟨t6, tp6, tc6, rp6, rc6, p6, c6, xs6, rfl, hw6, hN6, hc6, hg6⟩; have hb6 := HBD.out.step hbw hc6 hg6; have HB6 := Lib.hid hb6; have d4 : w6.cell? ⟨w2.heap.size, 8, none⟩ = some (.slice p ts.length c) := hb6.facts.1.2.2.2.2.2.2.2.2; have d4z := hb6.facts.2; have d5 := fun (o : Obj) => al_cell d4 o; clear hb6))
          all_goals
            have hown : ∀ z, wr.drew.heap.size ≤ z → (Value.slice p ts.length c).ownBlock ≠ some z := fun z hz e => by
              have := (HBD.out.new.row.own.lt z e).2
              omega
            have hx := (hN6.tm.mono (C' := fun z => InBox w w2.heap.size z ∧ (Value.slice p ts.length c).ownBlock ≠ some z) (fun z hz _ => ⟨InBox.of HBD.out.lt HBD.out.bxlt hz, hown z hz⟩)).ms
            have HBZ := Lib.hid (HB6.out.app hbw hA hx)
            have HWZ := Lib.hid (show wtS (ts ++ [t6]) ≤ (j + 1) * (m + 1) by
              have := HWT.out
              rw [wtS_append, Nat.add_mul]
              simp only [wtS]
              omega)
            clear hx hown hA hw6 hN6 hc6 hg6 d4 d4z d5 d6b d6 d6z g0 g1 g2 g3 g4 g5 g6 g7 g8 gz
            go_wp2_with fail
            go_roundw
            case rel => exact ⟨j + 1, ts ++ [t6], some ⟨g2', 0, none⟩, cap2, _, Or.inl (by omega), by go_num, by simp [HL.out], HWZ.out, HBZ.out⟩
            case measure => simp [intOf]; omega
        · obtain ⟨⟨x0, x1, x2, x3, x4, x5, x6, x7, x8⟩, xz⟩ := hb.rdy.facts
          clear hb
          go_wp2_with fail
          refine bodyPost_ret (v := tmV (.mk 4 a ⟨#[]⟩ 0 (.mk 0 []) (.mk 0 []) ts) none 0 none 0 p c) ?_ rfl ?_
          · rw [results_cell1 rfl]
            go_simp
            all_goals (repeat' apply And.intro) <;> rfl
          · have := HB.out.fin hbw (wt_of (k := 4) (n := 0) (a := a) (o := ⟨#[]⟩) (ty := (.mk 0 [])) (res := (.mk 0 [])) (ts := ts) (m := m) HSa.out (by decide) (by simp [Ty.nodes, nodesS]) (by simp [Ty.nodes, nodesS]) j3 HWT.out)
            rw [setN9] at this
            exact this
    · skip
      have hp3 := pickS_litG [⟨#[120]⟩, ⟨#[121]⟩, ⟨#[102]⟩] 3 b _ #[.string ⟨#[120]⟩, .string ⟨#[121]⟩, .string ⟨#[102]⟩] rfl (by decide) (by decide) rfl HBX0.out.rdy.cur
      rw [World.size_alloc] at hp3
      have HP3 := Lib.hid hp3
      clear hp3
      go_wp2_with fail
      refine HP3.out.mono ?_
      rintro e w3 ⟨a, ha, rfl, hc3, hg3⟩
      have HSa := Lib.hid (show a.size ≤ 1 by simp at ha; rcases ha with rfl | rfl | rfl <;> decide)
      have hbx3 := HBX0.out.step hbw hc3 hg3
      have HBX3 := Lib.hid hbx3
      clear ha hc3 hg3 HP3
      obtain ⟨⟨g0, g1, g2, g3, g4, g5, g6, g7, g8⟩, gz⟩ := hbx3.facts
      clear hbx3
      have HBM := Lib.hid (HBX3.out.setName hbw a)
      go_wp2_with fail
      refine (draw_any 2 (by decide) (by decide) b _ HBM.out.rdy.cur).mono ?_
      rintro e w4 ⟨v4, u, rfl, hn4, hn, hc4, hg4⟩
      obtain ⟨s4, rfl, hs4⟩ := hn.tt
      obtain ⟨q4, d4, rfl⟩ := hs4.form
      have hbx4 := HBM.out.step hbw hc4 hg4
      have HBX4 := Lib.hid hbx4
      have HT4 := Lib.hid (hs4.mono (C' := fun z => InBox w w2.heap.size z ∧ (Value.slice none 0 0).ownBlock ≠ some z) (fun z hz _ => ⟨InBox.of HBM.out.lt HBM.out.bxlt hz, by simp [Value.ownBlock]⟩))
      have HN4 := Lib.hid hn4
      clear hn4 hn hs4 hc4 hg4
      clear g0 g1 g2 g3 g4 g5 g6 g7 g8 gz
      obtain ⟨⟨g0, g1, g2, g3, g4, g5, g6, g7, g8⟩, gz⟩ := hbx4.facts
      clear hbx4
      have HBA := Lib.hid (HBX4.out.setTy hbw HT4.out)
      go_wp2_with fail
      refine (arityS_any (.mk 6 a ⟨#[]⟩ 0 u (.mk 0 []) []) q4 d4 none 0 none 0 _).mono ?_
      rintro e w5 ⟨rfl, hb5⟩
      have HBX5 := Lib.hid (HBA.out.below hb5)
      obtain ⟨N, hN⟩ : ∃ N, (Tm.mk 6 a ⟨#[]⟩ 0 u (.mk 0 []) []).arity = N := ⟨_, rfl⟩
      have hr : -1 ≤ N ∧ N ≤ 3 := hN ▸ arK_range _ _ (opAr_range _)
      obtain ⟨hr0, hr3⟩ := hr
      rw [hN]
      clear hN hb5 g0 g1 g2 g3 g4 g5 g6 g7 g8 gz
      go_wp2_with fail
      go_loopw [7] (fun i wr => ∃ (j : Nat) (ts : List Tm) (p : Option Addr) (c : Nat) (xs : List Value), ((j : Int) ≤ N ∨ j = 0) ∧ i = .int .i64 j ∧ ts.length = j ∧ wtS ts ≤ j * (m + 1) ∧ BoxM w b w2.heap.size wr (.mk 6 a ⟨#[]⟩ 0 u (.mk 0 []) ts) q4 d4 none 0 p c xs) (fun i _ => N.toNat - (intOf i).toNat)
      case atStart => exact ⟨0, [], none, 0, [], Or.inr rfl, rfl, rfl, by simp [wtS], HBX5.out⟩
      case round =>
        obtain ⟨j, ts, p, c, xs, hj, rfl, hl, hw, hb⟩ := hrel
        obtain ⟨⟨g0, g1, g2, g3, g4, g5, g6, g7, g8⟩, gz⟩ := hb.facts
        have HB := Lib.hid hb
        have HWT := Lib.hid hw
        have HL := Lib.hid hl
        have hl3 : ts.length ≤ 3 := by omega
        have j0 : (0 : Int) ≤ (j : Int) := Int.natCast_nonneg _
        have j3 : j ≤ 3 := by omega
        clear hw hl
        by_cases hlt : (j : Int) < N
        · have hbd := hb.below (Below.refl _ wr).drew
          have HBD := Lib.hid hbd
          have hiw := HIH.out b wr.drew hbd.rdy.cur
          rw [← HWR.out] at hiw
          have HIW := Lib.hid hiw
          clear hiw
          clear hb hbd
          go_wp2_with fail
          go_region_law (first
            | (refine step_app1 (w0 := w6) (v := .slice p ts.length c) (n := ts.length) (xs := xs) rfl (.tmp 65) (.tmp 70) rfl Tryd.underlying27 hi hz0 hz1 hz2 rfl (by decide) rfl HB6.out.new.row.own _ rfl (by simp) rfl (fun u hu => by simp at hu; rcases hu with rfl | rfl | rfl | rfl | rfl | rfl | rfl | rfl | rfl <;> rfl) (by unfold maxLen; omega) (by omega) (by have := HB6.out.bxlt; have := HB6.out.lt; omega) ?_; intro w' g2' cap2 hA; have d6b := (hA.kept w2.heap.size HB6.out.bxlt (fun e => (HB6.out.new.row.blk _ e).2 rfl)).1.trans HB6.out.box; have d6 : w'.cell? ⟨w2.heap.size, 8, none⟩ = some (.slice p ts.length c) := cell_of_blk d6b 8; have d6z := unfrozen_of_blk d6b)
            | (go_simp; go_at_call 48; refine HIW.out.mono ?_; rintro e w6 ⟨t6, tp6, tc6, rp6, rc6, p6, c6, xs6, rfl, hw6, hN6, hc6, hg6⟩; have hb6 := HBD.out.step hbw hc6 hg6; have HB6 := Lib.hid hb6; have d4 : w6.cell? ⟨w2.heap.size, 8, none⟩ = some (.slice p ts.length c) := hb6.facts.1.2.2.2.2.2.2.2.2; have d4z := hb6.facts.2; have d5 := fun (o : Obj) => al_cell d4 o; clear hb6))
          all_goals
            have hown : ∀ z, wr.drew.heap.size ≤ z → (Value.slice p ts.length c).ownBlock ≠ some z := fun z hz e => by
              have := (HBD.out.new.row.own.lt z e).2
              omega
            have hx := (hN6.tm.mono (C' := fun z => InBox w w2.heap.size z ∧ (Value.slice p ts.length c).ownBlock ≠ some z) (fun z hz _ => ⟨InBox.of HBD.out.lt HBD.out.bxlt hz, hown z hz⟩)).ms
            have HBZ := Lib.hid (HB6.out.app hbw hA hx)
            have HWZ := Lib.hid (show wtS (ts ++ [t6]) ≤ (j + 1) * (m + 1) by
              have := HWT.out
              rw [wtS_append, Nat.add_mul]
              simp only [wtS]
              omega)
            clear hx hown hA hw6 hN6 hc6 hg6 d4 d4z d5 d6b d6 d6z g0 g1 g2 g3 g4 g5 g6 g7 g8 gz
            go_wp2_with fail
            go_roundw
            case rel => exact ⟨j + 1, ts ++ [t6], some ⟨g2', 0, none⟩, cap2, _, Or.inl (by omega), by go_num, by simp [HL.out], HWZ.out, HBZ.out⟩
            case measure => simp [intOf]; omega
        · obtain ⟨⟨x0, x1, x2, x3, x4, x5, x6, x7, x8⟩, xz⟩ := hb.rdy.facts
          clear hb
          go_wp2_with fail
          refine bodyPost_ret (v := tmV (.mk 6 a ⟨#[]⟩ 0 u (.mk 0 []) ts) q4 d4 none 0 p c) ?_ rfl ?_
          · rw [results_cell1 rfl]
            go_simp
            all_goals (repeat' apply And.intro) <;> rfl
          · have := HB.out.fin hbw (wt_of (k := 6) (n := 0) (a := a) (o := ⟨#[]⟩) (ty := u) (res := (.mk 0 [])) (ts := ts) (m := m) HSa.out (by decide) HN4.out (by simp [Ty.nodes, nodesS]) j3 HWT.out)
            rw [setN9] at this
            exact this
    · skip
      have hp3 := pickS_litG [⟨#[120]⟩, ⟨#[121]⟩, ⟨#[102]⟩] 3 b _ #[.string ⟨#[120]⟩, .string ⟨#[121]⟩, .string ⟨#[102]⟩] rfl (by decide) (by decide) rfl HBX0.out.rdy.cur
      rw [World.size_alloc] at hp3
      have HP3 := Lib.hid hp3
      clear hp3
      go_wp2_with fail
      refine HP3.out.mono ?_
      rintro e w3 ⟨a, ha, rfl, hc3, hg3⟩
      have HSa := Lib.hid (show a.size ≤ 1 by simp at ha; rcases ha with rfl | rfl | rfl <;> decide)
      have hbx3 := HBX0.out.step hbw hc3 hg3
      have HBX3 := Lib.hid hbx3
      clear ha hc3 hg3 HP3
      obtain ⟨⟨g0, g1, g2, g3, g4, g5, g6, g7, g8⟩, gz⟩ := hbx3.facts
      clear hbx3
      have HBA := Lib.hid (HBX3.out.setName hbw a)
      go_wp2_with fail
      refine (arityS_any (.mk 8 a ⟨#[]⟩ 0 (.mk 0 []) (.mk 0 []) []) none 0 none 0 none 0 _).mono ?_
      rintro e w5 ⟨rfl, hb5⟩
      have HBX5 := Lib.hid (HBA.out.below hb5)
      obtain ⟨N, hN⟩ : ∃ N, (Tm.mk 8 a ⟨#[]⟩ 0 (.mk 0 []) (.mk 0 []) []).arity = N := ⟨_, rfl⟩
      have hr : -1 ≤ N ∧ N ≤ 3 := hN ▸ arK_range _ _ (opAr_range _)
      obtain ⟨hr0, hr3⟩ := hr
      rw [hN]
      clear hN hb5 g0 g1 g2 g3 g4 g5 g6 g7 g8 gz
      go_wp2_with fail
      go_loopw [7] (fun i wr => ∃ (j : Nat) (ts : List Tm) (p : Option Addr) (c : Nat) (xs : List Value), ((j : Int) ≤ N ∨ j = 0) ∧ i = .int .i64 j ∧ ts.length = j ∧ wtS ts ≤ j * (m + 1) ∧ BoxM w b w2.heap.size wr (.mk 8 a ⟨#[]⟩ 0 (.mk 0 []) (.mk 0 []) ts) none 0 none 0 p c xs) (fun i _ => N.toNat - (intOf i).toNat)
      case atStart => exact ⟨0, [], none, 0, [], Or.inr rfl, rfl, rfl, by simp [wtS], HBX5.out⟩
      case round =>
        obtain ⟨j, ts, p, c, xs, hj, rfl, hl, hw, hb⟩ := hrel
        obtain ⟨⟨g0, g1, g2, g3, g4, g5, g6, g7, g8⟩, gz⟩ := hb.facts
        have HB := Lib.hid hb
        have HWT := Lib.hid hw
        have HL := Lib.hid hl
        have hl3 : ts.length ≤ 3 := by omega
        have j0 : (0 : Int) ≤ (j : Int) := Int.natCast_nonneg _
        have j3 : j ≤ 3 := by omega
        clear hw hl
        by_cases hlt : (j : Int) < N
        · have hbd := hb.below (Below.refl _ wr).drew
          have HBD := Lib.hid hbd
          have hiw := HIH.out b wr.drew hbd.rdy.cur
          rw [← HWR.out] at hiw
          have HIW := Lib.hid hiw
          clear hiw
          clear hb hbd
          go_wp2_with fail
          go_region_law (first
            | (refine step_app1 (w0 := w6) (v := .slice p ts.length c) (n := ts.length) (xs := xs) rfl (.tmp 65) (.tmp 70) rfl Tryd.underlying27 hi hz0 hz1 hz2 rfl (by decide) rfl HB6.out.new.row.own _ rfl (by simp) rfl (fun u hu => by simp at hu; rcases hu with rfl | rfl | rfl | rfl | rfl | rfl | rfl | rfl | rfl <;> rfl) (by unfold maxLen; omega) (by omega) (by have := HB6.out.bxlt; have := HB6.out.lt; omega) ?_; intro w' g2' cap2 hA; have d6b := (hA.kept w2.heap.size HB6.out.bxlt (fun e => (HB6.out.new.row.blk _ e).2 rfl)).1.trans HB6.out.box; have d6 : w'.cell? ⟨w2.heap.size, 8, none⟩ = some (.slice p ts.length c) := cell_of_blk d6b 8; have d6z := unfrozen_of_blk d6b)
            | (go_simp; go_at_call 48; refine HIW.out.mono ?_; rintro e w6 ⟨t6, tp6, tc6, rp6, rc6, p6, c6, xs6, rfl, hw6, hN6, hc6, hg6⟩; have hb6 := HBD.out.step hbw hc6 hg6; have HB6 := Lib.hid hb6; have d4 : w6.cell? ⟨w2.heap.size, 8, none⟩ = some (.slice p ts.length c) := hb6.facts.1.2.2.2.2.2.2.2.2; have d4z := hb6.facts.2; have d5 := fun (o : Obj) => al_cell d4 o; clear hb6))
          all_goals
            have hown : ∀ z, wr.drew.heap.size ≤ z → (Value.slice p ts.length c).ownBlock ≠ some z := fun z hz e => by
              have := (HBD.out.new.row.own.lt z e).2
              omega
            have hx := (hN6.tm.mono (C' := fun z => InBox w w2.heap.size z ∧ (Value.slice p ts.length c).ownBlock ≠ some z) (fun z hz _ => ⟨InBox.of HBD.out.lt HBD.out.bxlt hz, hown z hz⟩)).ms
            have HBZ := Lib.hid (HB6.out.app hbw hA hx)
            have HWZ := Lib.hid (show wtS (ts ++ [t6]) ≤ (j + 1) * (m + 1) by
              have := HWT.out
              rw [wtS_append, Nat.add_mul]
              simp only [wtS]
              omega)
            clear hx hown hA hw6 hN6 hc6 hg6 d4 d4z d5 d6b d6 d6z g0 g1 g2 g3 g4 g5 g6 g7 g8 gz
            go_wp2_with fail
            go_roundw
            case rel => exact ⟨j + 1, ts ++ [t6], some ⟨g2', 0, none⟩, cap2, _, Or.inl (by omega), by go_num, by simp [HL.out], HWZ.out, HBZ.out⟩
            case measure => simp [intOf]; omega
        · obtain ⟨⟨x0, x1, x2, x3, x4, x5, x6, x7, x8⟩, xz⟩ := hb.rdy.facts
          clear hb
          go_wp2_with fail
          refine bodyPost_ret (v := tmV (.mk 8 a ⟨#[]⟩ 0 (.mk 0 []) (.mk 0 []) ts) none 0 none 0 p c) ?_ rfl ?_
          · rw [results_cell1 rfl]
            go_simp
            all_goals (repeat' apply And.intro) <;> rfl
          · have := HB.out.fin hbw (wt_of (k := 8) (n := 0) (a := a) (o := ⟨#[]⟩) (ty := (.mk 0 [])) (res := (.mk 0 [])) (ts := ts) (m := m) HSa.out (by decide) (by simp [Ty.nodes, nodesS]) (by simp [Ty.nodes, nodesS]) j3 HWT.out)
            rw [setN9] at this
            exact this
    · skip
      have hp3 := pickS_litG [⟨#[120]⟩, ⟨#[121]⟩, ⟨#[102]⟩] 3 b _ #[.string ⟨#[120]⟩, .string ⟨#[121]⟩, .string ⟨#[102]⟩] rfl (by decide) (by decide) rfl HBX0.out.rdy.cur
      rw [World.size_alloc] at hp3
      have HP3 := Lib.hid hp3
      clear hp3
      go_wp2_with fail
      refine HP3.out.mono ?_
      rintro e w3 ⟨a, ha, rfl, hc3, hg3⟩
      have HSa := Lib.hid (show a.size ≤ 1 by simp at ha; rcases ha with rfl | rfl | rfl <;> decide)
      have hbx3 := HBX0.out.step hbw hc3 hg3
      have HBX3 := Lib.hid hbx3
      clear ha hc3 hg3 HP3
      obtain ⟨⟨g0, g1, g2, g3, g4, g5, g6, g7, g8⟩, gz⟩ := hbx3.facts
      clear hbx3
      have HBM := Lib.hid (HBX3.out.setName hbw a)
      go_wp2_with fail
      refine (draw_any 2 (by decide) (by decide) b _ HBM.out.rdy.cur).mono ?_
      rintro e w4 ⟨v4, u, rfl, hn4, hn, hc4, hg4⟩
      obtain ⟨s4, rfl, hs4⟩ := hn.tt
      obtain ⟨q4, d4, rfl⟩ := hs4.form
      have hbx4 := HBM.out.step hbw hc4 hg4
      have HBX4 := Lib.hid hbx4
      have HT4 := Lib.hid (hs4.mono (C' := fun z => InBox w w2.heap.size z ∧ (Value.slice none 0 0).ownBlock ≠ some z) (fun z hz _ => ⟨InBox.of HBM.out.lt HBM.out.bxlt hz, by simp [Value.ownBlock]⟩))
      have HN4 := Lib.hid hn4
      clear hn4 hn hs4 hc4 hg4
      clear g0 g1 g2 g3 g4 g5 g6 g7 g8 gz
      obtain ⟨⟨g0, g1, g2, g3, g4, g5, g6, g7, g8⟩, gz⟩ := hbx4.facts
      clear hbx4
      have HBO := Lib.hid (HBX4.out.setTy hbw HT4.out)
      have hp6 := pickS_litG [⟨#[122]⟩, ⟨#[119]⟩] 2 b _ #[.string ⟨#[122]⟩, .string ⟨#[119]⟩] rfl (by decide) (by decide) rfl HBO.out.rdy.cur
      rw [World.size_setCell, World.size_setCell] at hp6
      have HP6 := Lib.hid hp6
      clear hp6
      go_wp2_with fail
      refine HP6.out.mono ?_
      rintro e w6 ⟨o, ho, rfl, hc6, hg6⟩
      have HSo := Lib.hid (show o.size ≤ 1 by simp at ho; rcases ho with rfl | rfl <;> decide)
      have hbx6 := HBO.out.step hbw hc6 hg6
      have HBX6 := Lib.hid hbx6
      clear ho hc6 hg6 HP6
      clear g0 g1 g2 g3 g4 g5 g6 g7 g8 gz
      obtain ⟨⟨g0, g1, g2, g3, g4, g5, g6, g7, g8⟩, gz⟩ := hbx6.facts
      clear hbx6
      have HBP := Lib.hid (HBX6.out.setOther hbw o)
      go_wp2_with fail
      refine (draw_any 2 (by decide) (by decide) b _ HBP.out.rdy.cur).mono ?_
      rintro e w7 ⟨v7, x, rfl, hn7, hn, hc7, hg7⟩
      obtain ⟨s7, rfl, hs7⟩ := hn.tt
      obtain ⟨q7, d7, rfl⟩ := hs7.form
      have hbx7 := HBP.out.step hbw hc7 hg7
      have HBX7 := Lib.hid hbx7
      have HT7 := Lib.hid (hs7.mono (C' := fun z => InBox w w2.heap.size z ∧ (Value.slice none 0 0).ownBlock ≠ some z) (fun z hz _ => ⟨InBox.of HBP.out.lt HBP.out.bxlt hz, by simp [Value.ownBlock]⟩))
      have HN7 := Lib.hid hn7
      clear hn7 hn hs7 hc7 hg7
      clear g0 g1 g2 g3 g4 g5 g6 g7 g8 gz
      obtain ⟨⟨g0, g1, g2, g3, g4, g5, g6, g7, g8⟩, gz⟩ := hbx7.facts
      clear hbx7
      have HBA := Lib.hid (HBX7.out.setRes hbw HT7.out)
      go_wp2_with fail
      refine (arityS_any (.mk 9 a o 0 u x []) q4 d4 q7 d7 none 0 _).mono ?_
      rintro e w5 ⟨rfl, hb5⟩
      have HBX5 := Lib.hid (HBA.out.below hb5)
      obtain ⟨N, hN⟩ : ∃ N, (Tm.mk 9 a o 0 u x []).arity = N := ⟨_, rfl⟩
      have hr : -1 ≤ N ∧ N ≤ 3 := hN ▸ arK_range _ _ (opAr_range _)
      obtain ⟨hr0, hr3⟩ := hr
      rw [hN]
      clear hN hb5 g0 g1 g2 g3 g4 g5 g6 g7 g8 gz
      go_wp2_with fail
      go_loopw [7] (fun i wr => ∃ (j : Nat) (ts : List Tm) (p : Option Addr) (c : Nat) (xs : List Value), ((j : Int) ≤ N ∨ j = 0) ∧ i = .int .i64 j ∧ ts.length = j ∧ wtS ts ≤ j * (m + 1) ∧ BoxM w b w2.heap.size wr (.mk 9 a o 0 u x ts) q4 d4 q7 d7 p c xs) (fun i _ => N.toNat - (intOf i).toNat)
      case atStart => exact ⟨0, [], none, 0, [], Or.inr rfl, rfl, rfl, by simp [wtS], HBX5.out⟩
      case round =>
        obtain ⟨j, ts, p, c, xs, hj, rfl, hl, hw, hb⟩ := hrel
        obtain ⟨⟨g0, g1, g2, g3, g4, g5, g6, g7, g8⟩, gz⟩ := hb.facts
        have HB := Lib.hid hb
        have HWT := Lib.hid hw
        have HL := Lib.hid hl
        have hl3 : ts.length ≤ 3 := by omega
        have j0 : (0 : Int) ≤ (j : Int) := Int.natCast_nonneg _
        have j3 : j ≤ 3 := by omega
        clear hw hl
        by_cases hlt : (j : Int) < N
        · have hbd := hb.below (Below.refl _ wr).drew
          have HBD := Lib.hid hbd
          have hiw := HIH.out b wr.drew hbd.rdy.cur
          rw [← HWR.out] at hiw
          have HIW := Lib.hid hiw
          clear hiw
          clear hb hbd
          go_wp2_with fail
          go_region_law (first
            | (refine step_app1 (w0 := w6) (v := .slice p ts.length c) (n := ts.length) (xs := xs) rfl (.tmp 65) (.tmp 70) rfl Tryd.underlying27 hi hz0 hz1 hz2 rfl (by decide) rfl HB6.out.new.row.own _ rfl (by simp) rfl (fun u hu => by simp at hu; rcases hu with rfl | rfl | rfl | rfl | rfl | rfl | rfl | rfl | rfl <;> rfl) (by unfold maxLen; omega) (by omega) (by have := HB6.out.bxlt; have := HB6.out.lt; omega) ?_; intro w' g2' cap2 hA; have d6b := (hA.kept w2.heap.size HB6.out.bxlt (fun e => (HB6.out.new.row.blk _ e).2 rfl)).1.trans HB6.out.box; have d6 : w'.cell? ⟨w2.heap.size, 8, none⟩ = some (.slice p ts.length c) := cell_of_blk d6b 8; have d6z := unfrozen_of_blk d6b)
            | (go_simp; go_at_call 48; refine HIW.out.mono ?_; rintro e w6 ⟨t6, tp6, tc6, rp6, rc6, p6, c6, xs6, rfl, hw6, hN6, hc6, hg6⟩; have hb6 := HBD.out.step hbw hc6 hg6; have HB6 := Lib.hid hb6; have d4 : w6.cell? ⟨w2.heap.size, 8, none⟩ = some (.slice p ts.length c) := hb6.facts.1.2.2.2.2.2.2.2.2; have d4z := hb6.facts.2; have d5 := fun (o : Obj) => al_cell d4 o; clear hb6))
          all_goals
            have hown : ∀ z, wr.drew.heap.size ≤ z → (Value.slice p ts.length c).ownBlock ≠ some z := fun z hz e => by
              have := (HBD.out.new.row.own.lt z e).2
              omega
            have hx := (hN6.tm.mono (C' := fun z => InBox w w2.heap.size z ∧ (Value.slice p ts.length c).ownBlock ≠ some z) (fun z hz _ => ⟨InBox.of HBD.out.lt HBD.out.bxlt hz, hown z hz⟩)).ms
            have HBZ := Lib.hid (HB6.out.app hbw hA hx)
            have HWZ := Lib.hid (show wtS (ts ++ [t6]) ≤ (j + 1) * (m + 1) by
              have := HWT.out
              rw [wtS_append, Nat.add_mul]
              simp only [wtS]
              omega)
            clear hx hown hA hw6 hN6 hc6 hg6 d4 d4z d5 d6b d6 d6z g0 g1 g2 g3 g4 g5 g6 g7 g8 gz
            go_wp2_with fail
            go_roundw
            case rel => exact ⟨j + 1, ts ++ [t6], some ⟨g2', 0, none⟩, cap2, _, Or.inl (by omega), by go_num, by simp [HL.out], HWZ.out, HBZ.out⟩
            case measure => simp [intOf]; omega
        · obtain ⟨⟨x0, x1, x2, x3, x4, x5, x6, x7, x8⟩, xz⟩ := hb.rdy.facts
          clear hb
          go_wp2_with fail
          refine bodyPost_ret (v := tmV (.mk 9 a o 0 u x ts) q4 d4 q7 d7 p c) ?_ rfl ?_
          · rw [results_cell1 rfl]
            go_simp
            all_goals (repeat' apply And.intro) <;> rfl
          · have := HB.out.fin hbw (wt_of (k := 9) (n := 0) (a := a) (o := o) (ty := u) (res := x) (ts := ts) (m := m) HSa.out HSo.out HN4.out HN7.out j3 HWT.out)
            rw [setN9] at this
            exact this
    · have e4 : (y == 4) = false := by rw [beq_eq_false_iff_ne]; omega
      have e6 : (y == 6) = false := by rw [beq_eq_false_iff_ne]; omega
      have e8 : (y == 8) = false := by rw [beq_eq_false_iff_ne]; omega
      have e9 : (y == 9) = false := by rw [beq_eq_false_iff_ne]; omega
      have HBA := Lib.hid (HBX0.out)
      go_wp2_with fail
      refine (arityS_any (.mk y ⟨#[]⟩ ⟨#[]⟩ 0 (.mk 0 []) (.mk 0 []) []) none 0 none 0 none 0 _).mono ?_
      rintro e w5 ⟨rfl, hb5⟩
      have HBX5 := Lib.hid (HBA.out.below hb5)
      obtain ⟨N, hN⟩ : ∃ N, (Tm.mk y ⟨#[]⟩ ⟨#[]⟩ 0 (.mk 0 []) (.mk 0 []) []).arity = N := ⟨_, rfl⟩
      have hr : -1 ≤ N ∧ N ≤ 3 := hN ▸ arK_range _ _ (opAr_range _)
      obtain ⟨hr0, hr3⟩ := hr
      rw [hN]
      clear hN hb5
      go_wp2_with fail
      go_loopw [7] (fun i wr => ∃ (j : Nat) (ts : List Tm) (p : Option Addr) (c : Nat) (xs : List Value), ((j : Int) ≤ N ∨ j = 0) ∧ i = .int .i64 j ∧ ts.length = j ∧ wtS ts ≤ j * (m + 1) ∧ BoxM w b w2.heap.size wr (.mk y ⟨#[]⟩ ⟨#[]⟩ 0 (.mk 0 []) (.mk 0 []) ts) none 0 none 0 p c xs) (fun i _ => N.toNat - (intOf i).toNat)
      case atStart => exact ⟨0, [], none, 0, [], Or.inr rfl, rfl, rfl, by simp [wtS], HBX5.out⟩
      case round =>
        obtain ⟨j, ts, p, c, xs, hj, rfl, hl, hw, hb⟩ := hrel
        obtain ⟨⟨g0, g1, g2, g3, g4, g5, g6, g7, g8⟩, gz⟩ := hb.facts
        have HB := Lib.hid hb
        have HWT := Lib.hid hw
        have HL := Lib.hid hl
        have hl3 : ts.length ≤ 3 := by omega
        have j0 : (0 : Int) ≤ (j : Int) := Int.natCast_nonneg _
        have j3 : j ≤ 3 := by omega
        clear hw hl
        by_cases hlt : (j : Int) < N
        · have hbd := hb.below (Below.refl _ wr).drew
          have HBD := Lib.hid hbd
          have hiw := HIH.out b wr.drew hbd.rdy.cur
          rw [← HWR.out] at hiw
          have HIW := Lib.hid hiw
          clear hiw
          clear hb hbd
          go_wp2_with fail
          go_region_law (first
            | (refine step_app1 (w0 := w6) (v := .slice p ts.length c) (n := ts.length) (xs := xs) rfl (.tmp 65) (.tmp 70) rfl Tryd.underlying27 hi hz0 hz1 hz2 rfl (by decide) rfl HB6.out.new.row.own _ rfl (by simp) rfl (fun u hu => by simp at hu; rcases hu with rfl | rfl | rfl | rfl | rfl | rfl | rfl | rfl | rfl <;> rfl) (by unfold maxLen; omega) (by omega) (by have := HB6.out.bxlt; have := HB6.out.lt; omega) ?_; intro w' g2' cap2 hA; have d6b := (hA.kept w2.heap.size HB6.out.bxlt (fun e => (HB6.out.new.row.blk _ e).2 rfl)).1.trans HB6.out.box; have d6 : w'.cell? ⟨w2.heap.size, 8, none⟩ = some (.slice p ts.length c) := cell_of_blk d6b 8; have d6z := unfrozen_of_blk d6b)
            | (go_simp; go_at_call 48; refine HIW.out.mono ?_; rintro e w6 ⟨t6, tp6, tc6, rp6, rc6, p6, c6, xs6, rfl, hw6, hN6, hc6, hg6⟩; have hb6 := HBD.out.step hbw hc6 hg6; have HB6 := Lib.hid hb6; have d4 : w6.cell? ⟨w2.heap.size, 8, none⟩ = some (.slice p ts.length c) := hb6.facts.1.2.2.2.2.2.2.2.2; have d4z := hb6.facts.2; have d5 := fun (o : Obj) => al_cell d4 o; clear hb6))
          all_goals
            have hown : ∀ z, wr.drew.heap.size ≤ z → (Value.slice p ts.length c).ownBlock ≠ some z := fun z hz e => by
              have := (HBD.out.new.row.own.lt z e).2
              omega
            have hx := (hN6.tm.mono (C' := fun z => InBox w w2.heap.size z ∧ (Value.slice p ts.length c).ownBlock ≠ some z) (fun z hz _ => ⟨InBox.of HBD.out.lt HBD.out.bxlt hz, hown z hz⟩)).ms
            have HBZ := Lib.hid (HB6.out.app hbw hA hx)
            have HWZ := Lib.hid (show wtS (ts ++ [t6]) ≤ (j + 1) * (m + 1) by
              have := HWT.out
              rw [wtS_append, Nat.add_mul]
              simp only [wtS]
              omega)
            clear hx hown hA hw6 hN6 hc6 hg6 d4 d4z d5 d6b d6 d6z g0 g1 g2 g3 g4 g5 g6 g7 g8 gz
            go_wp2_with fail
            go_roundw
            case rel => exact ⟨j + 1, ts ++ [t6], some ⟨g2', 0, none⟩, cap2, _, Or.inl (by omega), by go_num, by simp [HL.out], HWZ.out, HBZ.out⟩
            case measure => simp [intOf]; omega
        · obtain ⟨⟨x0, x1, x2, x3, x4, x5, x6, x7, x8⟩, xz⟩ := hb.rdy.facts
          clear hb
          go_wp2_with fail
          refine bodyPost_ret (v := tmV (.mk y ⟨#[]⟩ ⟨#[]⟩ 0 (.mk 0 []) (.mk 0 []) ts) none 0 none 0 p c) ?_ rfl ?_
          · rw [results_cell1 rfl]
            go_simp
            all_goals (repeat' apply And.intro) <;> rfl
          · have := HB.out.fin hbw (wt_of (k := y) (n := 0) (a := ⟨#[]⟩) (o := ⟨#[]⟩) (ty := (.mk 0 [])) (res := (.mk 0 [])) (ts := ts) (m := m) (by decide) (by decide) (by simp [Ty.nodes, nodesS]) (by simp [Ty.nodes, nodesS]) j3 HWT.out)
            rw [setN9] at this
            exact this
end Go.Proofs.YtnciibngcaajgaaDoor
/- TmDrawn2: The contract of the draws' l5Any at every depth from 1 to 4. -/
namespace Go.Proofs.YtnciibngcaajgaaDoor
open Go Go.RowKit

set_option maxRecDepth 100000 in
set_option maxHeartbeats 2000000 in
theorem anyM_one (b : Nat) (w : World) (hc : Cur w b) : Calls Tryd.prog 48 #[.pointer (some ⟨b, 0, none⟩), .int .i64 1] w (DrawM 1 b w) := by
  have hbw := hc.lt
  have HR0 := Lib.hid (RdyM.start hc)
  clear hc
  go_enter Tryd.func48, Tryd.ntmps48
  go_wp2_with fail
  refine (leafM_any b _ HR0.out.cur).mono ?_
  rintro e w2 ⟨k, s, n, rfl, hs, hc2, hg2⟩
  have hr2 := HR0.out.step hbw hc2 hg2
  have HR2 := Lib.hid hr2
  obtain ⟨⟨g0, g1, g2, g3, g4, g5, g6, g7, g8⟩, gz⟩ := hr2.facts
  clear hr2 hc2 hg2
  go_wp2_with fail
  refine bodyPost_ret (v := leafV k s n) ?_ rfl ?_
  · rw [results_cell1 rfl]
    go_simp
  · have := leaf_draw (m := 1) HR2.out hbw k s n (by omega)
    rw [setN9] at this
    exact this
theorem DrawM.mono {m m' b : Nat} {w w' : World} {e : Ending} (h : DrawM m b w e w') (hm : m ≤ m') : DrawM m' b w e w' := by
  obtain ⟨t, tp, tc, rp, rc, p, c, xs, h1, h2, h3⟩ := h
  exact ⟨t, tp, tc, rp, rc, p, c, xs, h1, Nat.le_trans h2 hm, h3⟩
/-- THE DRAW OF A TERM of at most a depth. -/
theorem anyM_any (D : Int) (h1 : 1 ≤ D) (h4 : D ≤ 4) (b : Nat) (w : World) (hc : Cur w b) : Calls Tryd.prog 48 #[.pointer (some ⟨b, 0, none⟩), .int .i64 D] w (DrawM 144 b w) := by
  have s2 := fun b w (hc : Cur w b) => anyM_step 1 2 (by decide) (by decide) (by decide) anyM_one b w hc
  have s3 := fun b w (hc : Cur w b) => anyM_step 12 3 (by decide) (by decide) (by decide) s2 b w hc
  have s4 := fun b w (hc : Cur w b) => anyM_step 45 4 (by decide) (by decide) (by decide) s3 b w hc
  rcases (show D = 1 ∨ D = 2 ∨ D = 3 ∨ D = 4 by omega) with rfl | rfl | rfl | rfl
  · exact (anyM_one b w hc).mono fun _ _ h => h.mono (by decide)
  · exact (s2 b w hc).mono fun _ _ h => h.mono (by decide)
  · exact (s3 b w hc).mono fun _ _ h => h.mono (by decide)
  · exact (s4 b w hc).mono fun _ _ h => h.mono (by decide)
#print axioms anyM_any
end Go.Proofs.YtnciibngcaajgaaDoor
/- Bent: The contract of the draws' l3Bent: a drawn type, now and then bent at one place; it has at most 127 nodes. -/
namespace Go.Proofs.YtnciibngcaajgaaDoor
open Go Go.RowKit

set_option maxRecDepth 100000 in
set_option maxHeartbeats 1000000 in
theorem bent_any (b : Nat) (w : World) (hc : Cur w b) : Calls Tryd.prog 51 #[.pointer (some ⟨b, 0, none⟩)] w (BentT b w) := by
  obtain ⟨i0, hi, hz0, hz1, hz2⟩ := info_parts infoTy
  have hbw := hc.lt
  have HR0 := Lib.hid (Rdy.start hc)
  clear hc
  go_enter Tryd.func51, Tryd.ntmps51
  go_wp2_with fail
  refine (draw_any 4 (by decide) (by decide) b _ HR0.out.cur).mono ?_
  rintro e w1 ⟨v1, t, rfl, hn, hg, hc1, hgr1⟩
  have hr1 := HR0.out.step hbw hc1 hgr1
  obtain ⟨s1, es, hv1, hes, hG⟩ := hg
  subst hv1
  have hT := hG.all
  rw [hes] at hT
  obtain ⟨p1, c1, rfl⟩ := hT.form
  rw [World.size_alloc] at hT hG
  have hlt := hr1.lt
  have hbox : Box w b w1.heap.size (w1.alloc (.cells #[.int .i64 t.kind, .slice p1 t.args.length c1] 26)) t (.slice p1 t.args.length c1) :=
    ⟨hr1.below (alloc_below w1 _), blk_new w1 _, (hT.mono (C' := fun z => w.heap.size + 1 ≤ z ∧ z ≠ w1.heap.size) (fun z hz hl => ⟨hz, by omega⟩)).keep (alloc_below w1 _), by omega⟩
  have HBX := Lib.hid hbox
  have HG := Lib.hid hG
  have HES := Lib.hid hes
  have hn15 : t.nodes + 1 ≤ 16 := hn
  have hcur := HBX.out.rdy.cur
  have HB0 := Lib.hid (below_any b 10 _ (by decide) (by decide) hcur)
  clear hc1 hgr1 hr1 hT hG hbox hes hn hcur
  go_wp2_with fail
  refine HB0.out.mono ?_
  rintro e w2 ⟨x, hx, rfl, hc2, hg2⟩
  have hb2 := HBX.out.step hbw hc2 hg2
  obtain ⟨⟨f0, f1, fz⟩, g0, g1, gz⟩ := hb2.facts
  have HB2 := Lib.hid hb2
  have HS2 := Lib.hid ((Stays.of_below (C := fun z => w.heap.size + 1 ≤ z) (alloc_below w1 (.cells #[.int .i64 t.kind, .slice p1 t.args.length c1] 26))).trans ⟨hg2.size, fun z hz hl => hg2.block z hl (fun e => by have := Option.some.inj e; omega)⟩)
  clear hc2 hg2 hb2 HB0
  obtain ⟨x0, x10⟩ := hx
  rcases (show x = 0 ∨ x = 1 ∨ x = 2 ∨ x = 3 ∨ 4 ≤ x by omega) with rfl | rfl | rfl | rfl | h4
  · clear f0 f1 fz g0 g1 gz
    go_wp2_with fail
    refine (below_any b 6 w2 (by decide) (by decide) HB2.out.rdy.cur).mono ?_
    rintro e w3 ⟨y, hy, rfl, hc3, hg3⟩
    have hb3 := HB2.out.step hbw hc3 hg3
    obtain ⟨⟨f0, f1, fz⟩, g0, g1, gz⟩ := hb3.facts
    have HB3 := Lib.hid hb3
    clear hc3 hg3 hb3 hy
    go_wp2_with fail
    refine bodyPost_ret (v := .agg #[.int .i64 y, .slice p1 t.args.length c1]) ?_ rfl ?_
    · rw [results_cell1 rfl]
      go_simp
    · exact bent_fin (t := .mk y t.args) (HB3.out.setKind hbw y) hbw (by rw [t.nodes_eq] at hn15; simp only [Ty.nodes]; omega)
  · clear f0 f1 fz g0 g1 gz
    have hd2 := HB2.out.below (Below.refl _ w2).drew
    obtain ⟨⟨f0, f1, fz⟩, g0, g1, gz⟩ := HB2.out.facts
    have hlen : es.length = t.args.length := by rw [← HES.out, List.length_map]
    have hl16 : t.args.length ≤ 15 := by have := nodesS_ge t.args; rw [t.nodes_eq] at hn15; omega
    have HLEN := Lib.hid hlen
    have HD2 := Lib.hid hd2
    have HBW := Lib.hid (fun (W : World) (hW : Below w2.drew.heap.size w2.drew W) => hd2.below hW)
    have HSW := Lib.hid (fun (W : World) (hW : Below w2.drew.heap.size w2.drew W) => (HS2.out.trans (Stays.of_below (Below.refl _ w2).drew)).trans (Stays.of_below hW))
    have HGW := Lib.hid (fun (W : World) (hW : Below w2.drew.heap.size w2.drew W) => (HG.out.stays (HSW.out W hW)))
    have HD := Lib.hid (fun (W : World) (hW : Below w2.drew.heap.size w2.drew W) => (hd2.below hW).facts.1.2.1)
    have HDZ := Lib.hid (fun (W : World) (hW : Below w2.drew.heap.size w2.drew W) => (hd2.below hW).facts.1.2.2)
    have HKB := Lib.hid (fun (W : World) (hW : Below w2.drew.heap.size w2.drew W) (x1 x2 : Value) (w' : World) (g2 cap2 : Nat) (hA : Appd W w' (w.heap.size + 1) 26 2 (.slice p1 t.args.length c1) es.length (ecells es) [x1, x2] g2 cap2) =>
      (((hA.kept w1.heap.size (hd2.below hW).bxlt (fun e => by have := (HG.out.own.lt _ e).2; omega)).1.trans (hd2.below hW).box) : w'.heap[w1.heap.size]? = some (.cells #[.int .i64 t.kind, .slice p1 t.args.length c1] 26 (0, 0))))
    clear hd2 hlen
    go_wp2_with fail
    go_region_law (first
        | (refine step_app1 (w0 := w3) (v := .slice p1 t.args.length c1) (n := es.length) (xs := ecells es) rfl (.tmp 19) (.tmp 21) rfl Tryd.underlying24 hi hz0 hz1 hz2 rfl (by decide) rfl (HGW.out w3 hb3).own _ rfl (by simp) rfl (fun u hu => by simp at hu; rcases hu with rfl | rfl <;> rfl) (by have := HLEN.out; unfold maxLen; omega) (by have := HLEN.out; omega) (by have := (HBW.out w3 hb3).bxlt; have := HB2.out.lt; omega) ?_; intro w' g2 cap2 hA; have d6b := HKB.out _ hb3 _ _ _ _ _ hA; have d6 : w'.cell? ⟨w1.heap.size, 1, none⟩ = some (.slice p1 t.args.length c1) := cell_of_blk d6b 1; have d6z := unfrozen_of_blk d6b)
        | (go_simp; go_at_call 71; refine (l3Int_any _).mono ?_; rintro e w3 ⟨rfl, hb3⟩; have d4 := HD.out w3 hb3; have d4z := HDZ.out w3 hb3; have d5 := fun (o : Obj) => al_cell d4 o))
    all_goals
      have hbz := box_app (HBW.out w3 hb3) hbw HG.out rfl (HSW.out w3 hb3) hA HES.out
      obtain ⟨wz, hwz⟩ : ∃ wz, w'.setCell ⟨w1.heap.size, 1, none⟩ (.slice (some ⟨g2, 0, none⟩) (es.length + 1) cap2) = wz := ⟨_, rfl⟩
      rw [hwz] at hbz ⊢
      have HBZ := Lib.hid hbz
      clear hwz hA hb3 d4 d4z d5 d6b d6 d6z f0 f1 fz g0 g1 gz
      obtain ⟨⟨f0, f1, fz⟩, g0, g1, gz⟩ := hbz.facts
      clear hbz
      go_wp2_with fail
      refine bodyPost_ret (v := .agg #[.int .i64 t.kind, .slice (some ⟨g2, 0, none⟩) (es.length + 1) cap2]) ?_ rfl ?_
      · rw [results_cell1 rfl]
        go_simp
      · exact bent_fin (t := .mk t.kind (t.args ++ [.mk 1 []])) HBZ.out hbw (by rw [t.nodes_eq] at hn15; simp only [Ty.nodes, nodesS_append, nodesS]; omega)
  · clear f0 f1 fz g0 g1 gz
    go_wp2_with fail
    refine (below_any b 6 w2 (by decide) (by decide) HB2.out.rdy.cur).mono ?_
    rintro e w3 ⟨y, hy, rfl, hc3, hg3⟩
    have HB3 := Lib.hid (HB2.out.step hbw hc3 hg3)
    obtain ⟨y0, y6⟩ := hy
    clear hc3 hg3
    go_wp2_with fail
    go_loopw [5] (fun i wr => ∃ (k : Nat) (u : Ty) (p : Option Addr) (c : Nat), (k : Int) ≤ 1 + y ∧ i = .int .i64 k ∧ u.nodes ≤ 16 + k ∧ Box w b w1.heap.size wr u (.slice p u.args.length c)) (fun i _ => (1 + y).toNat - (intOf i).toNat)
    case atStart => exact ⟨0, t, p1, c1, by omega, rfl, by omega, HB3.out⟩
    case round =>
      obtain ⟨k, u, p, c, hk, rfl, hu, hb⟩ := hrel
      obtain ⟨⟨f0, f1, fz⟩, g0, g1, gz⟩ := hb.facts
      have HB := Lib.hid hb
      clear hb
      by_cases hlk : (k : Int) < 1 + y
      · have HC := Lib.hid (l3Code_any HB.out.tt (by rw [u.nodes_eq] at hu; omega))
        go_wp2_with fail
        refine HC.out.mono ?_
        rintro e w4 ⟨v4, rfl, hg4, hb4⟩
        have hB4 := HB.out.below hb4
        obtain ⟨s4, rfl, hs4⟩ := hg4.ts (w := w) (bx := w1.heap.size) (by have := HB.out.rdy.lt; omega) HB.out.bxlt
        obtain ⟨p4, c4, rfl⟩ := hs4.form
        clear f0 f1 fz g0 g1 gz
        obtain ⟨⟨f0, f1, fz⟩, g0, g1, gz⟩ := hB4.facts
        have HB4 := Lib.hid hB4
        have HS4 := Lib.hid hs4
        clear hB4 hs4 hg4 hb4
        go_wp2_with fail
        go_roundw
        case rel => exact ⟨k + 1, .mk 4 [u], p4, c4, by omega, by go_num, by simp only [Ty.nodes, nodesS]; omega, HB4.out.set hbw HS4.out⟩
        case measure => simp [intOf]; omega
      · go_wp2_with fail
        refine bodyPost_ret (v := .agg #[.int .i64 u.kind, .slice p u.args.length c]) ?_ rfl ?_
        · rw [results_cell1 rfl]
          go_simp
        · exact bent_fin HB.out hbw (by omega)
  · clear f0 f1 fz g0 g1 gz
    go_wp2_with fail
    go_loopw [6] (fun i wr => ∃ (k : Nat) (u : Ty) (p : Option Addr) (c : Nat), k ≤ 3 ∧ i = .int .i64 k ∧ u.nodes + 1 ≤ 16 * 2 ^ k ∧ Box w b w1.heap.size wr u (.slice p u.args.length c)) (fun i _ => 3 - (intOf i).toNat)
    case atStart => exact ⟨0, t, p1, c1, by omega, rfl, by simpa using hn15, HB2.out⟩
    case round =>
      obtain ⟨k, u, p, c, hk, rfl, hu, hb⟩ := hrel
      have hk8 : 2 ^ k ≤ 2 ^ 3 := Nat.pow_le_pow_right (by decide) hk
      have hu2 : u.nodes ≤ 127 := by omega
      have HU := Lib.hid hu
      clear hu hk8
      obtain ⟨⟨f0, f1, fz⟩, g0, g1, gz⟩ := hb.facts
      have HB := Lib.hid hb
      clear hb
      by_cases hlk : (k : Int) < 3
      · have hna : nodesS u.args ≤ 1048576 := by rw [u.nodes_eq] at hu2; omega
        have HC := Lib.hid (l3Fun_any HB.out.tt HB.out.tt hna hna)
        clear hna
        go_wp2_with fail
        refine HC.out.mono ?_
        rintro e w4 ⟨v4, rfl, hg4, hb4⟩
        have hB4 := HB.out.below hb4
        obtain ⟨s4, rfl, hs4⟩ := hg4.ts (w := w) (bx := w1.heap.size) (by have := HB.out.rdy.lt; omega) HB.out.bxlt
        obtain ⟨p4, c4, rfl⟩ := hs4.form
        clear f0 f1 fz g0 g1 gz
        obtain ⟨⟨f0, f1, fz⟩, g0, g1, gz⟩ := hB4.facts
        have HB4 := Lib.hid hB4
        have HS4 := Lib.hid hs4
        clear hB4 hs4 hg4 hb4
        go_wp2_with fail
        go_roundw
        case rel => exact ⟨k + 1, .mk 3 [u, u], p4, c4, by omega, by go_num, by have := HU.out; simp only [Ty.nodes, nodesS, Nat.pow_succ]; omega, HB4.out.set hbw HS4.out⟩
        case measure => simp [intOf]; omega
      · go_wp2_with fail
        refine bodyPost_ret (v := .agg #[.int .i64 u.kind, .slice p u.args.length c]) ?_ rfl ?_
        · rw [results_cell1 rfl]
          go_simp
        · exact bent_fin HB.out hbw (by omega)
  · have e0 : (x == 0) = false := by rw [beq_eq_false_iff_ne]; omega
    have e1 : (x == 1) = false := by rw [beq_eq_false_iff_ne]; omega
    have e2 : (x == 2) = false := by rw [beq_eq_false_iff_ne]; omega
    have e3 : (x == 3) = false := by rw [beq_eq_false_iff_ne]; omega
    go_wp2_with fail
    refine bodyPost_ret (v := .agg #[.int .i64 t.kind, .slice p1 t.args.length c1]) ?_ rfl ?_
    · rw [results_cell1 rfl]
      go_simp
    · exact bent_fin HB2.out hbw (by omega)
end Go.Proofs.YtnciibngcaajgaaDoor
/- TmBent: The contract of the draws' l5Bent: a drawn term, now and then bent at one place (genbent.py writes this text). -/
namespace Go.Proofs.YtnciibngcaajgaaDoor
open Go Go.RowKit

set_option maxRecDepth 100000 in
set_option maxHeartbeats 8000000 in
theorem bentM_any (b : Nat) (w : World) (hc : Cur w b) : Calls Tryd.prog 24 #[.pointer (some ⟨b, 0, none⟩)] w (DrawM 400 b w) := by
  obtain ⟨i0, hi, hz0, hz1, hz2⟩ := info_parts infoTm
  have hbw := hc.lt
  have HR0 := Lib.hid (RdyM.start hc)
  clear hc
  go_enter Tryd.func24, Tryd.ntmps24
  go_wp2_with fail
  refine (below_any b 4 _ (by decide) (by decide) HR0.out.cur).mono ?_
  rintro e w1 ⟨q, hq, rfl, hc1, hg1⟩
  have HR1 := Lib.hid (HR0.out.step hbw hc1 hg1)
  obtain ⟨q0, q4⟩ := hq
  clear hc1 hg1
  have HIW := Lib.hid (anyM_any (1 + q) (by omega) (by omega) b w1 HR1.out.cur)
  go_wp2_with fail
  refine HIW.out.mono ?_
  rintro e w2 ⟨t, tp, tc, rp, rc, p, c, xs, rfl, hw, hN, hc2, hg2⟩
  have hr2 := HR1.out.step hbw hc2 hg2
  have hlt1 := HR1.out.lt
  have hlt2 := hr2.lt
  have hE : NewTm w2 (w.heap.size + 1) (InBox w w2.heap.size) t tp tc rp rc p c xs := hN.base (by omega) (fun z hz hl => ⟨by omega, by omega⟩)
  rw [t.eta] at hE
  have HBX0 := Lib.hid (show BoxM w b w2.heap.size (w2.alloc (.cells (tmC t tp tc rp rc p c) 29)) (.mk t.kind t.name t.other t.n t.ty t.res t.args) tp tc rp rc p c xs from
    ⟨hr2.below (al_below _ _), blk_new w2 _, hE.stays (.of_below (al_below _ _)), by omega⟩)
  have hwe := t.wt_eq
  have HW := Lib.hid (show t.name.size + t.other.size + nodesS t.ty.args + nodesS t.res.args + wtS t.args ≤ 144 by omega)
  have HC2 := Lib.hid (below_any b 14 _ (by decide) (by decide) HBX0.out.rdy.cur)
  have hal : wtS t.args ≤ 144 := by omega
  have hlen := wtS_ge t.args
  have hl3 : t.args.length ≤ 144 := by omega
  clear hr2 hc2 hg2 hN hE hw hwe hal hlen HIW
  go_wp2_with fail
  refine HC2.out.mono ?_
  rintro e w3 ⟨x, hx, rfl, hc3, hg3⟩
  have hb3 := HBX0.out.step hbw hc3 hg3
  have HB3 := Lib.hid hb3
  clear hc3 hg3 HC2 HBX0
  obtain ⟨x0, x14⟩ := hx
  rcases (show x = 0 ∨ x = 1 ∨ x = 2 ∨ x = 3 ∨ x = 4 ∨ x = 5 ∨ 6 ≤ x by omega) with rfl | rfl | rfl | rfl | rfl | rfl | h6
  · clear hb3
    go_wp2_with fail
    refine (below_any b 15 w3 (by decide) (by decide) HB3.out.rdy.cur).mono ?_
    rintro e w4 ⟨y, hy, rfl, hc4, hg4⟩
    have hb4 := HB3.out.step hbw hc4 hg4
    have HB4 := Lib.hid hb4
    obtain ⟨⟨g0, g1, g2, g3, g4, g5, g6, g7, g8⟩, gz⟩ := hb4.facts
    obtain ⟨⟨r0, r1, r2, r3, r4, r5, r6, r7, r8⟩, rz⟩ := hb4.rdy.facts
    clear hb4 hc4 hg4 hy
    go_wp2_with fail
    refine bodyPost_ret (v := tmV (.mk y t.name t.other t.n t.ty t.res t.args) tp tc rp rc p c) ?_ rfl ?_
    · rw [results_cell1 rfl]
      go_simp
      all_goals (repeat' apply And.intro) <;> rfl
    · have := (HB4.out.setKind hbw y).fin (m := 400) hbw (by have := HW.out; skip; simp only [Tm.wt]; omega)
      rw [setN9] at this
      exact this
  · clear hb3
    go_wp2_with fail
    refine (pickInt_litG [0, 1, 10006, 10007, -1] 5 b w3 _ rfl (by decide) (by decide) rfl HB3.out.rdy.cur).mono ?_
    rintro e w4 ⟨y, hy, rfl, hc4, hg4⟩
    have hb4 := HB3.out.step hbw hc4 hg4
    have HB4 := Lib.hid hb4
    obtain ⟨⟨g0, g1, g2, g3, g4, g5, g6, g7, g8⟩, gz⟩ := hb4.facts
    obtain ⟨⟨r0, r1, r2, r3, r4, r5, r6, r7, r8⟩, rz⟩ := hb4.rdy.facts
    clear hb4 hc4 hg4 hy
    go_wp2_with fail
    refine bodyPost_ret (v := tmV (.mk t.kind t.name t.other y t.ty t.res t.args) tp tc rp rc p c) ?_ rfl ?_
    · rw [results_cell1 rfl]
      go_simp
      all_goals (repeat' apply And.intro) <;> rfl
    · have := (HB4.out.setNum hbw y).fin (m := 400) hbw (by have := HW.out; skip; simp only [Tm.wt]; omega)
      rw [setN9] at this
      exact this
  · clear hb3
    go_wp2_with fail
    refine (pickS_litG [⟨#[]⟩, ⟨#[120]⟩, ⟨#[108, 101, 116]⟩, ⟨#[97, 98, 99, 100, 101]⟩, ⟨#[43]⟩] 5 b w3 _ rfl (by decide) (by decide) rfl HB3.out.rdy.cur).mono ?_
    rintro e w4 ⟨s, hs, rfl, hc4, hg4⟩
    have hb4 := HB3.out.step hbw hc4 hg4
    have HB4 := Lib.hid hb4
    have HS := Lib.hid (show s.size ≤ 5 by simp at hs; rcases hs with rfl | rfl | rfl | rfl | rfl <;> decide)
    obtain ⟨⟨g0, g1, g2, g3, g4, g5, g6, g7, g8⟩, gz⟩ := hb4.facts
    obtain ⟨⟨r0, r1, r2, r3, r4, r5, r6, r7, r8⟩, rz⟩ := hb4.rdy.facts
    clear hb4 hc4 hg4 hs
    go_wp2_with fail
    refine bodyPost_ret (v := tmV (.mk t.kind s t.other t.n t.ty t.res t.args) tp tc rp rc p c) ?_ rfl ?_
    · rw [results_cell1 rfl]
      go_simp
      all_goals (repeat' apply And.intro) <;> rfl
    · have := (HB4.out.setName hbw s).fin (m := 400) hbw (by have := HW.out; have := HS.out; simp only [Tm.wt]; omega)
      rw [setN9] at this
      exact this
  · have hbd := hb3.below (Below.refl _ w3).drew
    have HBD := Lib.hid hbd
    obtain ⟨⟨g0, g1, g2, g3, g4, g5, g6, g7, g8⟩, gz⟩ := hb3.facts
    obtain ⟨⟨r0, r1, r2, r3, r4, r5, r6, r7, r8⟩, rz⟩ := hb3.rdy.facts
    clear hb3 hbd
    go_wp2_with fail
    go_region_law (first
      | (refine step_app1 (w0 := w6) (v := .slice p t.args.length c) (n := t.args.length) (xs := xs) rfl (.tmp 31) (.tmp 33) rfl Tryd.underlying27 hi hz0 hz1 hz2 rfl (by decide) rfl HB6.out.new.row.own _ rfl (by simp) rfl (fun u hu => by simp at hu; rcases hu with rfl | rfl | rfl | rfl | rfl | rfl | rfl | rfl | rfl <;> rfl) (by unfold maxLen; omega) (by omega) (by have := HB6.out.bxlt; have := HB6.out.lt; omega) ?_; intro w' g2' cap2 hA; have d6b := (hA.kept w2.heap.size HB6.out.bxlt (fun e => (HB6.out.new.row.blk _ e).2 rfl)).1.trans HB6.out.box; have d6 : w'.cell? ⟨w2.heap.size, 8, none⟩ = some (.slice p t.args.length c) := cell_of_blk d6b 8; have d6z := unfrozen_of_blk d6b)
      | (go_simp; go_at_call 50; refine (l5Var_any _ w3.drew).mono ?_; rintro e w6 ⟨rfl, hb6⟩; have hbx6 := HBD.out.below hb6; have HB6 := Lib.hid hbx6; have d4 : w6.cell? ⟨w2.heap.size, 8, none⟩ = some (.slice p t.args.length c) := hbx6.facts.1.2.2.2.2.2.2.2.2; have d4z := hbx6.facts.2; have d5 := fun (o : Obj) => al_cell d4 o; clear hbx6))
    all_goals
      have hx := (leaf_new w6 0 (fun z => InBox w w2.heap.size z ∧ (Value.slice p t.args.length c).ownBlock ≠ some z) 1 ⟨#[120]⟩ 0).tm.ms
      have hbz := HB6.out.app hbw hA hx
      have HBZ := Lib.hid hbz
      obtain ⟨wz, hwz⟩ : ∃ wz, w'.setCell ⟨w2.heap.size, 8, none⟩ (.slice (some ⟨g2', 0, none⟩) (t.args.length + 1) cap2) = wz := ⟨_, rfl⟩
      rw [hwz] at HBZ hbz ⊢
      clear hwz hx hA d4 d4z d5 d6b d6 d6z g0 g1 g2 g3 g4 g5 g6 g7 g8 gz r0 r1 r2 r3 r4 r5 r6 r7 r8 rz hb6
      obtain ⟨⟨g0, g1, g2, g3, g4, g5, g6, g7, g8⟩, gz⟩ := hbz.facts
      obtain ⟨⟨r0, r1, r2, r3, r4, r5, r6, r7, r8⟩, rz⟩ := hbz.rdy.facts
      have el : (t.args ++ [leaf 1 ⟨#[120]⟩ 0]).length = t.args.length + 1 := by simp
      rw [el] at g8
      clear hbz el
      go_wp2_with fail
      refine bodyPost_ret (v := tmV (.mk t.kind t.name t.other t.n t.ty t.res (t.args ++ [leaf 1 ⟨#[120]⟩ 0])) tp tc rp rc (some ⟨g2', 0, none⟩) cap2) ?_ rfl ?_
      · rw [results_cell1 rfl]
        go_simp
        all_goals (repeat' apply And.intro) <;> first | rfl | simp [Tm.args]
      · have := HBZ.out.fin (m := 400) hbw (by have := HW.out; have hl : wtS (t.args ++ [leaf 1 ⟨#[120]⟩ 0]) = wtS t.args + 2 := (by rw [wtS_append]; rfl); simp only [Tm.wt]; rw [hl]; omega)
        rw [setN9] at this
        simp only [Tm.args, List.length_append, List.length_cons, List.length_nil] at this
        exact this
  · clear hb3
    go_wp2_with fail
    refine (bent_any b w3 HB3.out.rdy.cur).mono ?_
    rintro e w4 ⟨v4, u, rfl, hu, htt, hc4, hg4⟩
    obtain ⟨s4, rfl, hs4⟩ := htt
    obtain ⟨p4, c4, rfl⟩ := hs4.form
    have hb4 := HB3.out.step hbw hc4 hg4
    have HB4 := Lib.hid hb4
    have HT4 := Lib.hid (hs4.mono (C' := fun z => InBox w w2.heap.size z ∧ (Value.slice p t.args.length c).ownBlock ≠ some z) (fun z hz _ => ⟨InBox.of HB3.out.lt HB3.out.bxlt hz, fun e => by
      have := (HB3.out.new.row.own.lt z e).2
      have : w3.heap.size ≤ z := hz
      omega⟩))
    have HU := Lib.hid hu
    obtain ⟨⟨g0, g1, g2, g3, g4, g5, g6, g7, g8⟩, gz⟩ := hb4.facts
    obtain ⟨⟨r0, r1, r2, r3, r4, r5, r6, r7, r8⟩, rz⟩ := hb4.rdy.facts
    clear hb4 hc4 hg4 hs4 hu
    go_wp2_with fail
    refine bodyPost_ret (v := tmV (.mk t.kind t.name t.other t.n u t.res t.args) p4 c4 rp rc p c) ?_ rfl ?_
    · rw [results_cell1 rfl]
      go_simp
      all_goals (repeat' apply And.intro) <;> rfl
    · have := (HB4.out.setTy hbw HT4.out).fin (m := 400) hbw (by have := HW.out; have := HU.out; rw [u.nodes_eq] at this; simp only [Tm.wt]; omega)
      rw [setN9] at this
      exact this
  · clear hb3
    go_wp2_with fail
    refine (pickS_litG [⟨#[120]⟩, ⟨#[122]⟩] 2 b w3 _ rfl (by decide) (by decide) rfl HB3.out.rdy.cur).mono ?_
    rintro e w4 ⟨s, hs, rfl, hc4, hg4⟩
    have hb4 := HB3.out.step hbw hc4 hg4
    have HB4 := Lib.hid hb4
    have HS := Lib.hid (show s.size ≤ 1 by simp at hs; rcases hs with rfl | rfl <;> decide)
    obtain ⟨⟨g0, g1, g2, g3, g4, g5, g6, g7, g8⟩, gz⟩ := hb4.facts
    obtain ⟨⟨r0, r1, r2, r3, r4, r5, r6, r7, r8⟩, rz⟩ := hb4.rdy.facts
    clear hb4 hc4 hg4 hs
    go_wp2_with fail
    refine bodyPost_ret (v := tmV (.mk t.kind t.name s t.n t.ty t.res t.args) tp tc rp rc p c) ?_ rfl ?_
    · rw [results_cell1 rfl]
      go_simp
      all_goals (repeat' apply And.intro) <;> rfl
    · have := (HB4.out.setOther hbw s).fin (m := 400) hbw (by have := HW.out; have := HS.out; simp only [Tm.wt]; omega)
      rw [setN9] at this
      exact this
  · have e0 : (x == 0) = false := by rw [beq_eq_false_iff_ne]; omega
    have e1 : (x == 1) = false := by rw [beq_eq_false_iff_ne]; omega
    have e2 : (x == 2) = false := by rw [beq_eq_false_iff_ne]; omega
    have e3 : (x == 3) = false := by rw [beq_eq_false_iff_ne]; omega
    have e4 : (x == 4) = false := by rw [beq_eq_false_iff_ne]; omega
    have e5 : (x == 5) = false := by rw [beq_eq_false_iff_ne]; omega
    obtain ⟨⟨g0, g1, g2, g3, g4, g5, g6, g7, g8⟩, gz⟩ := hb3.facts
    obtain ⟨⟨r0, r1, r2, r3, r4, r5, r6, r7, r8⟩, rz⟩ := hb3.rdy.facts
    clear hb3
    go_wp2_with fail
    refine bodyPost_ret (v := tmV (.mk t.kind t.name t.other t.n t.ty t.res t.args) tp tc rp rc p c) ?_ rfl ?_
    · rw [results_cell1 rfl]
      go_simp
      all_goals (repeat' apply And.intro) <;> rfl
    · have := (HB3.out).fin (m := 400) hbw (by have := HW.out; skip; simp only [Tm.wt]; omega)
      rw [setN9] at this
      exact this
end Go.Proofs.YtnciibngcaajgaaDoor
