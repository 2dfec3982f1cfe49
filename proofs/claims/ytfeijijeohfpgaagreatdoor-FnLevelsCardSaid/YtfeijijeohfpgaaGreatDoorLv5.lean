/-
  Several texts of the proof in one (each says below what it holds): TmDrawn TmDrawn2 Gsml Gpck Gmst RdrS TypS2 Ctx.
-/
import Derived.Test.YtfeijijeohfpgaaGreatDoorLv4
import Derived.Test.YtfeijijeohfpgaaGreatDoorLv1
import Derived.Test.YtfeijijeohfpgaaGreatDoorLv3
import Derived.Deep.RegionHeldLaw
import Derived.IntWalk
import Derived.BigQuiet
import Derived.Deep.QuietTactic
set_option linter.unusedVariables false
set_option linter.unusedSimpArgs false
namespace Go.Proofs.YtfeijijeohfpgaaGreatDoor
open Go Go.RowKit

theorem leaf_draw {w W : World} {b m : Nat} (h : RdyM w b W) (hbw : b < w.heap.size) (k : Int) (s : ByteArray) (n : Int) (hs : s.size ≤ m) :
    DrawM m b w (.returned (leafV k s n)) (setN W w.heap.size 0 [.int .i64 k, .string s, .string ⟨#[]⟩, .int .i64 n, .int .i64 0, .slice none 0 0, .int .i64 0, .slice none 0 0, .slice none 0 0]) :=
  have hf := h.fin hbw _
  ⟨leaf k s n, none, 0, none, 0, none, 0, [], rfl, by simp [Tm.wt, wtS, nodesS]; exact hs, leaf_new _ _ _ _ _ _, hf.1, hf.2.1⟩
theorem wt_of {k n : Int} {a o : ByteArray} {ty res : Ty} {ts : List Tm} {m j : Nat} (ha : a.size ≤ 1) (ho : o.size ≤ 1) (h1 : ty.nodes + 1 ≤ 4) (h2 : res.nodes + 1 ≤ 4) (hj : j ≤ 3) (hw : wtS ts ≤ j * (m + 1)) : (Tm.mk k a o n ty res ts).wt ≤ 3 * m + 9 := by
  rw [ty.nodes_eq] at h1
  rw [res.nodes_eq] at h2
  have : j * (m + 1) ≤ 3 * (m + 1) := Nat.mul_le_mul_right _ hj
  simp only [Tm.wt]
  omega
theorem InBox.of {w W : World} {bx z : Nat} (h1 : w.heap.size + 1 ≤ bx) (h2 : bx < W.heap.size) (hz : W.heap.size ≤ z) : InBox w bx z := ⟨by omega, by omega⟩

set_option maxRecDepth 100000 in
set_option maxHeartbeats 8000000 in
theorem anyM_step (m : Nat) (D : Int) (hD0 : 2 ≤ D) (hD : D ≤ 4) (hm : m ≤ 1000)
    (IH : ∀ (b : Nat) (W : World), Cur W b → Calls Tryz.prog 82 #[.pointer (some ⟨b, 0, none⟩), .int .i64 (D - 1)] W (DrawM m b W)) (b : Nat) (w : World) (hc : Cur w b) :
    Calls Tryz.prog 82 #[.pointer (some ⟨b, 0, none⟩), .int .i64 D] w (DrawM (3 * m + 9) b w) := by
  obtain ⟨i0, hi, hz0, hz1, hz2⟩ := info_parts infoTm
  have hbw := hc.lt
  have HR0 := Lib.hid (RdyM.start hc)
  have HIH := Lib.hid IH
  have HWR := Lib.hid (show IntKind.i64.wrap (D - 1) = D - 1 from IntWalk.i64_in _ (by omega))
  clear hc IH
  go_enter Tryz.func82, Tryz.ntmps82
  go_wp2_with fail
  refine (once_any b 5 _ (by decide) (by decide) HR0.out.cur).mono ?_
  rintro e w1 ⟨q, rfl, hc1, hg1⟩
  have HR1 := Lib.hid (HR0.out.step hbw hc1 hg1)
  clear hc1 hg1
  cases q with
  | true =>
    go_wp2_with fail
    refine (leafM_any b w1 HR1.out.cur).mono ?_
    rintro e w2 ⟨k, s, n, rfl, hs, hc2, hg2⟩
    have hr2 := HR1.out.step hbw hc2 hg2
    have HR2 := Lib.hid hr2
    obtain ⟨⟨g0, g1, g2, g3, g4, g5, g6, g7, g8⟩, gz⟩ := hr2.facts
    clear hr2 hc2 hg2
    go_wp2_with fail
    refine bodyPost_ret (v := leafV k s n) ?_ rfl ?_
    · rw [results_cell1 rfl]
      go_simp
    · have := leaf_draw (m := 3 * m + 9) HR2.out hbw k s n (by omega)
      rw [setN9] at this
      exact this
  | false =>
    go_wp2_with fail
    refine (pickInt_litG [4, 5, 6, 7, 8, 9, 10, 11, 12, 13, 10, 4] 12 b w1 _ rfl (by decide) (by decide) rfl HR1.out.cur).mono ?_
    rintro e w2 ⟨y, hy, rfl, hc2, hg2⟩
    have hr2 := HR1.out.step hbw hc2 hg2
    have HR2 := Lib.hid hr2
    have hlt2 := hr2.lt
    have HBX0 := Lib.hid (show BoxM w b w2.heap.size (w2.alloc (.cells #[.int .i64 y, .string ⟨#[]⟩, .string ⟨#[]⟩, .int .i64 0, .int .i64 0, .slice none 0 0, .int .i64 0, .slice none 0 0, .slice none 0 0] 29)) (.mk y ⟨#[]⟩ ⟨#[]⟩ 0 (.mk 0 []) (.mk 0 []) []) none 0 none 0 none 0 [] from
      ⟨hr2.below (al_below _ _), blk_new w2 _, ⟨.nil _ _, .nil _ _, RowM.start _ _ _⟩, by omega⟩)
    have HY := Lib.hid hy
    clear hr2 hc2 hg2 hy
    rcases (show y = 4 ∨ y = 6 ∨ y = 8 ∨ y = 9 ∨ (y ≠ 4 ∧ y ≠ 6 ∧ y ≠ 8 ∧ y ≠ 9) by omega) with rfl | rfl | rfl | rfl | ⟨y4, y6, y8, y9⟩
    · skip
      have hp3 := pickS_litG [⟨#[43]⟩, ⟨#[45]⟩, ⟨#[42]⟩, ⟨#[61]⟩, ⟨#[60]⟩, ⟨#[38]⟩, ⟨#[124]⟩, ⟨#[33]⟩] 8 b _ #[.string ⟨#[43]⟩, .string ⟨#[45]⟩, .string ⟨#[42]⟩, .string ⟨#[61]⟩, .string ⟨#[60]⟩, .string ⟨#[38]⟩, .string ⟨#[124]⟩, .string ⟨#[33]⟩] rfl (by decide) (by decide) rfl HBX0.out.rdy.cur
      rw [World.size_alloc] at hp3
      have HP3 := Lib.hid hp3
      clear hp3
      go_wp2_with fail
      refine HP3.out.mono ?_
      rintro e w3 ⟨a, ha, rfl, hc3, hg3⟩
      have HSa := Lib.hid (show a.size ≤ 1 by simp at ha; rcases ha with rfl | rfl | rfl | rfl | rfl | rfl | rfl | rfl <;> decide)
      have hbx3 := HBX0.out.step hbw hc3 hg3
      have HBX3 := Lib.hid hbx3
      clear ha hc3 hg3 HP3
      obtain ⟨⟨g0, g1, g2, g3, g4, g5, g6, g7, g8⟩, gz⟩ := hbx3.facts
      clear hbx3
      have HBA := Lib.hid (HBX3.out.setName hbw a)
      go_wp2_with fail
      refine (arityS_any (.mk 4 a ⟨#[]⟩ 0 (.mk 0 []) (.mk 0 []) []) none 0 none 0 none 0 _).mono ?_
      rintro e w5 ⟨rfl, hb5⟩
      have HBX5 := Lib.hid (HBA.out.below hb5)
      obtain ⟨N, hN⟩ : ∃ N, (Tm.mk 4 a ⟨#[]⟩ 0 (.mk 0 []) (.mk 0 []) []).arity = N := ⟨_, rfl⟩
      have hr : -1 ≤ N ∧ N ≤ 3 := hN ▸ arK_range _ _ (opAr_range _)
      obtain ⟨hr0, hr3⟩ := hr
      rw [hN]
      clear hN hb5 g0 g1 g2 g3 g4 g5 g6 g7 g8 gz
      go_wp2_with fail
      go_loopw [7] (fun i wr => ∃ (j : Nat) (ts : List Tm) (p : Option Addr) (c : Nat) (xs : List Value), ((j : Int) ≤ N ∨ j = 0) ∧ i = .int .i64 j ∧ ts.length = j ∧ wtS ts ≤ j * (m + 1) ∧ BoxM w b w2.heap.size wr (.mk 4 a ⟨#[]⟩ 0 (.mk 0 []) (.mk 0 []) ts) none 0 none 0 p c xs) (fun i _ => N.toNat - (intOf i).toNat)
      case atStart => exact ⟨0, [], none, 0, [], Or.inr rfl, rfl, rfl, by simp [wtS], HBX5.out⟩
      case round =>
        obtain ⟨j, ts, p, c, xs, hj, rfl, hl, hw, hb⟩ := hrel
        obtain ⟨⟨g0, g1, g2, g3, g4, g5, g6, g7, g8⟩, gz⟩ := hb.facts
        have HB := Lib.hid hb
        have HWT := Lib.hid hw
        have HL := Lib.hid hl
        have hl3 : ts.length ≤ 3 := by omega
        have j0 : (0 : Int) ≤ (j : Int) := Int.natCast_nonneg _
        have j3 : j ≤ 3 := by omega
        clear hw hl
        by_cases hlt : (j : Int) < N
        · have hbd := hb.below (Below.refl _ wr).drew
          have HBD := Lib.hid hbd
          have hiw := HIH.out b wr.drew hbd.rdy.cur
          rw [← HWR.out] at hiw
          have HIW := Lib.hid hiw
          clear hiw
          clear hb hbd
          go_wp2_with fail
          go_region_law (first
            | (refine step_app1 (w0 := w6) (v := .slice p ts.length c) (n := ts.length) (xs := xs) rfl (.tmp 65) (.tmp 70) rfl Tryz.underlying27 hi hz0 hz1 hz2 rfl (by decide) rfl HB6.out.new.row.own _ rfl (by simp) rfl (fun u hu => by simp at hu; rcases hu with rfl | rfl | rfl | rfl | rfl | rfl | rfl | rfl | rfl <;> rfl) (by unfold maxLen; omega) (by omega) (by have := HB6.out.bxlt; have := HB6.out.lt; omega) ?_; intro w' g2' cap2 hA; have d6b := (hA.kept w2.heap.size HB6.out.bxlt (fun e => (HB6.out.new.row.blk _ e).2 rfl)).1.trans HB6.out.box; have d6 : w'.cell? ⟨w2.heap.size, 8, none⟩ = some (.slice p ts.length c) := cell_of_blk d6b 8; have d6z := unfrozen_of_blk d6b)
            | (go_simp; go_at_call 82; refine HIW.out.mono ?_; rintro e w6 ⟨t6, tp6, tc6, rp6, rc6, p6, c6, xs6, rfl, hw6, hN6, hc6, hg6⟩; have hb6 := HBD.out.step hbw hc6 hg6; have HB6 := Lib.hid hb6; have d4 : w6.cell? ⟨w2.heap.size, 8, none⟩ = some (.slice p ts.length c) := hb6.facts.1.2.2.2.2.2.2.2.2; have d4z := hb6.facts.2; have d5 := fun (o : Obj) => al_cell d4 o; clear hb6))
          all_goals
            have hown : ∀ z, wr.drew.heap.size ≤ z → (Value.slice p ts.length c).ownBlock ≠ some z := fun z hz e => by
              have := (HBD.out.new.row.own.lt z e).2
              omega
            have hx := (hN6.tm.mono (C' := fun z => InBox w w2.heap.size z ∧ (Value.slice p ts.length c).ownBlock ≠ some z) (fun z hz _ => ⟨InBox.of HBD.out.lt HBD.out.bxlt hz, hown z hz⟩)).ms
            have HBZ := Lib.hid (HB6.out.app hbw hA hx)
            have HWZ := Lib.hid (show wtS (ts ++ [t6]) ≤ (j + 1) * (m + 1) by
              have := HWT.out
              rw [wtS_append, Nat.add_mul]
              simp only [wtS]
              omega)
            clear hx hown hA hw6 hN6 hc6 hg6 d4 d4z d5 d6b d6 d6z g0 g1 g2 g3 g4 g5 g6 g7 g8 gz
            go_wp2_with fail
            go_roundw
            case rel => exact ⟨j + 1, ts ++ [t6], some ⟨g2', 0, none⟩, cap2, _, Or.inl (by omega), by go_num, by simp [HL.out], HWZ.out, HBZ.out⟩
            case measure => simp [intOf]; omega
        · obtain ⟨⟨x0, x1, x2, x3, x4, x5, x6, x7, x8⟩, xz⟩ := hb.rdy.facts
          clear hb
          go_wp2_with fail
          refine bodyPost_ret (v := tmV (.mk 4 a ⟨#[]⟩ 0 (.mk 0 []) (.mk 0 []) ts) none 0 none 0 p c) ?_ rfl ?_
          · rw [results_cell1 rfl]
            go_simp
            all_goals (repeat' apply And.intro) <;> rfl
          · have := HB.out.fin hbw (wt_of (k := 4) (n := 0) (a := a) (o := ⟨#[]⟩) (ty := (.mk 0 [])) (res := (.mk 0 [])) (ts := ts) (m := m) HSa.out (by decide) (by simp [Ty.nodes, nodesS]) (by simp [Ty.nodes, nodesS]) j3 HWT.out)
            rw [setN9] at this
            exact this
    · skip
      have hp3 := pickS_litG [⟨#[120]⟩, ⟨#[121]⟩, ⟨#[102]⟩] 3 b _ #[.string ⟨#[120]⟩, .string ⟨#[121]⟩, .string ⟨#[102]⟩] rfl (by decide) (by decide) rfl HBX0.out.rdy.cur
      rw [World.size_alloc] at hp3
      have HP3 := Lib.hid hp3
      clear hp3
      go_wp2_with fail
      refine HP3.out.mono ?_
      rintro e w3 ⟨a, ha, rfl, hc3, hg3⟩
      have HSa := Lib.hid (show a.size ≤ 1 by simp at ha; rcases ha with rfl | rfl | rfl <;> decide)
      have hbx3 := HBX0.out.step hbw hc3 hg3
      have HBX3 := Lib.hid hbx3
      clear ha hc3 hg3 HP3
      obtain ⟨⟨g0, g1, g2, g3, g4, g5, g6, g7, g8⟩, gz⟩ := hbx3.facts
      clear hbx3
      have HBM := Lib.hid (HBX3.out.setName hbw a)
      go_wp2_with fail
      refine (draw_any 2 (by decide) (by decide) b _ HBM.out.rdy.cur).mono ?_
      rintro e w4 ⟨v4, u, rfl, hn4, hn, hc4, hg4⟩
      obtain ⟨s4, rfl, hs4⟩ := hn.tt
      obtain ⟨q4, d4, rfl⟩ := hs4.form
      have hbx4 := HBM.out.step hbw hc4 hg4
      have HBX4 := Lib.hid hbx4
      have HT4 := Lib.hid (hs4.mono (C' := fun z => InBox w w2.heap.size z ∧ (Value.slice none 0 0).ownBlock ≠ some z) (fun z hz _ => ⟨InBox.of HBM.out.lt HBM.out.bxlt hz, by simp [Value.ownBlock]⟩))
      have HN4 := Lib.hid hn4
      clear hn4 hn hs4 hc4 hg4
      clear g0 g1 g2 g3 g4 g5 g6 g7 g8 gz
      obtain ⟨⟨g0, g1, g2, g3, g4, g5, g6, g7, g8⟩, gz⟩ := hbx4.facts
      clear hbx4
      have HBA := Lib.hid (HBX4.out.setTy hbw HT4.out)
      go_wp2_with fail
      refine (arityS_any (.mk 6 a ⟨#[]⟩ 0 u (.mk 0 []) []) q4 d4 none 0 none 0 _).mono ?_
      rintro e w5 ⟨rfl, hb5⟩
      have HBX5 := Lib.hid (HBA.out.below hb5)
      obtain ⟨N, hN⟩ : ∃ N, (Tm.mk 6 a ⟨#[]⟩ 0 u (.mk 0 []) []).arity = N := ⟨_, rfl⟩
      have hr : -1 ≤ N ∧ N ≤ 3 := hN ▸ arK_range _ _ (opAr_range _)
      obtain ⟨hr0, hr3⟩ := hr
      rw [hN]
      clear hN hb5 g0 g1 g2 g3 g4 g5 g6 g7 g8 gz
      go_wp2_with fail
      go_loopw [7] (fun i wr => ∃ (j : Nat) (ts : List Tm) (p : Option Addr) (c : Nat) (xs : List Value), ((j : Int) ≤ N ∨ j = 0) ∧ i = .int .i64 j ∧ ts.length = j ∧ wtS ts ≤ j * (m + 1) ∧ BoxM w b w2.heap.size wr (.mk 6 a ⟨#[]⟩ 0 u (.mk 0 []) ts) q4 d4 none 0 p c xs) (fun i _ => N.toNat - (intOf i).toNat)
      case atStart => exact ⟨0, [], none, 0, [], Or.inr rfl, rfl, rfl, by simp [wtS], HBX5.out⟩
      case round =>
        obtain ⟨j, ts, p, c, xs, hj, rfl, hl, hw, hb⟩ := hrel
        obtain ⟨⟨g0, g1, g2, g3, g4, g5, g6, g7, g8⟩, gz⟩ := hb.facts
        have HB := Lib.hid hb
        have HWT := Lib.hid hw
        have HL := Lib.hid hl
        have hl3 : ts.length ≤ 3 := by omega
        have j0 : (0 : Int) ≤ (j : Int) := Int.natCast_nonneg _
        have j3 : j ≤ 3 := by omega
        clear hw hl
        by_cases hlt : (j : Int) < N
        · have hbd := hb.below (Below.refl _ wr).drew
          have HBD := Lib.hid hbd
          have hiw := HIH.out b wr.drew hbd.rdy.cur
          rw [← HWR.out] at hiw
          have HIW := Lib.hid hiw
          clear hiw
          clear hb hbd
          go_wp2_with fail
          go_region_law (first
            | (refine step_app1 (w0 := w6) (v := .slice p ts.length c) (n := ts.length) (xs := xs) rfl (.tmp 65) (.tmp 70) rfl Tryz.underlying27 hi hz0 hz1 hz2 rfl (by decide) rfl HB6.out.new.row.own _ rfl (by simp) rfl (fun u hu => by simp at hu; rcases hu with rfl | rfl | rfl | rfl | rfl | rfl | rfl | rfl | rfl <;> rfl) (by unfold maxLen; omega) (by omega) (by have := HB6.out.bxlt; have := HB6.out.lt; omega) ?_; intro w' g2' cap2 hA; have d6b := (hA.kept w2.heap.size HB6.out.bxlt (fun e => (HB6.out.new.row.blk _ e).2 rfl)).1.trans HB6.out.box; have d6 : w'.cell? ⟨w2.heap.size, 8, none⟩ = some (.slice p ts.length c) := cell_of_blk d6b 8; have d6z := unfrozen_of_blk d6b)
            | (go_simp; go_at_call 82; refine HIW.out.mono ?_; rintro e w6 ⟨t6, tp6, tc6, rp6, rc6, p6, c6, xs6, rfl, hw6, hN6, hc6, hg6⟩; have hb6 := HBD.out.step hbw hc6 hg6; have HB6 := Lib.hid hb6; have d4 : w6.cell? ⟨w2.heap.size, 8, none⟩ = some (.slice p ts.length c) := hb6.facts.1.2.2.2.2.2.2.2.2; have d4z := hb6.facts.2; have d5 := fun (o : Obj) => al_cell d4 o; clear hb6))
          all_goals
            have hown : ∀ z, wr.drew.heap.size ≤ z → (Value.slice p ts.length c).ownBlock ≠ some z := fun z hz e => by
              have := (HBD.out.new.row.own.lt z e).2
              omega
            have hx := (hN6.tm.mono (C' := fun z => InBox w w2.heap.size z ∧ (Value.slice p ts.length c).ownBlock ≠ some z) (fun z hz _ => ⟨InBox.of HBD.out.lt HBD.out.bxlt hz, hown z hz⟩)).ms
            have HBZ := Lib.hid (HB6.out.app hbw hA hx)
            have HWZ := Lib.hid (show wtS (ts ++ [t6]) ≤ (j + 1) * (m + 1) by
              have := HWT.out
              rw [wtS_append, Nat.add_mul]
              simp only [wtS]
              omega)
            clear hx hown hA hw6 hN6 hc6 hg6 d4 d4z d5 d6b d6 d6z g0 g1 g2 g3 g4 g5 g6 g7 g8 gz
            go_wp2_with fail
            go_roundw
            case rel => exact ⟨j + 1, ts ++ [t6], some ⟨g2', 0, none⟩, cap2, _, Or.inl (by omega), by go_num, by simp [HL.out], HWZ.out, HBZ.out⟩
            case measure => simp [intOf]; omega
        · obtain ⟨⟨x0, x1, x2, x3, x4, x5, x6, x7, x8⟩, xz⟩ := hb.rdy.facts
          clear hb
          go_wp2_with fail
          refine bodyPost_ret (v := tmV (.mk 6 a ⟨#[]⟩ 0 u (.mk 0 []) ts) q4 d4 none 0 p c) ?_ rfl ?_
          · rw [results_cell1 rfl]
            go_simp
            all_goals (repeat' apply And.intro) <;> rfl
          · have := HB.out.fin hbw (wt_of (k := 6) (n := 0) (a := a) (o := ⟨#[]⟩) (ty := u) (res := (.mk 0 [])) (ts := ts) (m := m) HSa.out (by decide) HN4.out (by simp [Ty.nodes, nodesS]) j3 HWT.out)
            rw [setN9] at this
            exact this
    · skip
      have hp3 := pickS_litG [⟨#[120]⟩, ⟨#[121]⟩, ⟨#[102]⟩] 3 b _ #[.string ⟨#[120]⟩, .string ⟨#[121]⟩, .string ⟨#[102]⟩] rfl (by decide) (by decide) rfl HBX0.out.rdy.cur
      rw [World.size_alloc] at hp3
      have HP3 := Lib.hid hp3
      clear hp3
      go_wp2_with fail
      refine HP3.out.mono ?_
      rintro e w3 ⟨a, ha, rfl, hc3, hg3⟩
      have HSa := Lib.hid (show a.size ≤ 1 by simp at ha; rcases ha with rfl | rfl | rfl <;> decide)
      have hbx3 := HBX0.out.step hbw hc3 hg3
      have HBX3 := Lib.hid hbx3
      clear ha hc3 hg3 HP3
      obtain ⟨⟨g0, g1, g2, g3, g4, g5, g6, g7, g8⟩, gz⟩ := hbx3.facts
      clear hbx3
      have HBA := Lib.hid (HBX3.out.setName hbw a)
      go_wp2_with fail
      refine (arityS_any (.mk 8 a ⟨#[]⟩ 0 (.mk 0 []) (.mk 0 []) []) none 0 none 0 none 0 _).mono ?_
      rintro e w5 ⟨rfl, hb5⟩
      have HBX5 := Lib.hid (HBA.out.below hb5)
      obtain ⟨N, hN⟩ : ∃ N, (Tm.mk 8 a ⟨#[]⟩ 0 (.mk 0 []) (.mk 0 []) []).arity = N := ⟨_, rfl⟩
      have hr : -1 ≤ N ∧ N ≤ 3 := hN ▸ arK_range _ _ (opAr_range _)
      obtain ⟨hr0, hr3⟩ := hr
      rw [hN]
      clear hN hb5 g0 g1 g2 g3 g4 g5 g6 g7 g8 gz
      go_wp2_with fail
      go_loopw [7] (fun i wr => ∃ (j : Nat) (ts : List Tm) (p : Option Addr) (c : Nat) (xs : List Value), ((j : Int) ≤ N ∨ j = 0) ∧ i = .int .i64 j ∧ ts.length = j ∧ wtS ts ≤ j * (m + 1) ∧ BoxM w b w2.heap.size wr (.mk 8 a ⟨#[]⟩ 0 (.mk 0 []) (.mk 0 []) ts) none 0 none 0 p c xs) (fun i _ => N.toNat - (intOf i).toNat)
      case atStart => exact ⟨0, [], none, 0, [], Or.inr rfl, rfl, rfl, by simp [wtS], HBX5.out⟩
      case round =>
        obtain ⟨j, ts, p, c, xs, hj, rfl, hl, hw, hb⟩ := hrel
        obtain ⟨⟨g0, g1, g2, g3, g4, g5, g6, g7, g8⟩, gz⟩ := hb.facts
        have HB := Lib.hid hb
        have HWT := Lib.hid hw
        have HL := Lib.hid hl
        have hl3 : ts.length ≤ 3 := by omega
        have j0 : (0 : Int) ≤ (j : Int) := Int.natCast_nonneg _
        have j3 : j ≤ 3 := by omega
        clear hw hl
        by_cases hlt : (j : Int) < N
        · have hbd := hb.below (Below.refl _ wr).drew
          have HBD := Lib.hid hbd
          have hiw := HIH.out b wr.drew hbd.rdy.cur
          rw [← HWR.out] at hiw
          have HIW := Lib.hid hiw
          clear hiw
          clear hb hbd
          go_wp2_with fail
          go_region_law (first
            | (refine step_app1 (w0 := w6) (v := .slice p ts.length c) (n := ts.length) (xs := xs) rfl (.tmp 65) (.tmp 70) rfl Tryz.underlying27 hi hz0 hz1 hz2 rfl (by decide) rfl HB6.out.new.row.own _ rfl (by simp) rfl (fun u hu => by simp at hu; rcases hu with rfl | rfl | rfl | rfl | rfl | rfl | rfl | rfl | rfl <;> rfl) (by unfold maxLen; omega) (by omega) (by have := HB6.out.bxlt; have := HB6.out.lt; omega) ?_; intro w' g2' cap2 hA; have d6b := (hA.kept w2.heap.size HB6.out.bxlt (fun e => (HB6.out.new.row.blk _ e).2 rfl)).1.trans HB6.out.box; have d6 : w'.cell? ⟨w2.heap.size, 8, none⟩ = some (.slice p ts.length c) := cell_of_blk d6b 8; have d6z := unfrozen_of_blk d6b)
            | (go_simp; go_at_call 82; refine HIW.out.mono ?_; rintro e w6 ⟨t6, tp6, tc6, rp6, rc6, p6, c6, xs6, rfl, hw6, hN6, hc6, hg6⟩; have hb6 := HBD.out.step hbw hc6 hg6; have HB6 := Lib.hid hb6; have d4 : w6.cell? ⟨w2.heap.size, 8, none⟩ = some (.slice p ts.length c) := hb6.facts.1.2.2.2.2.2.2.2.2; have d4z := hb6.facts.2; have d5 := fun (o : Obj) => al_cell d4 o; clear hb6))
          all_goals
            have hown : ∀ z, wr.drew.heap.size ≤ z → (Value.slice p ts.length c).ownBlock ≠ some z := fun z hz e => by
              have := (HBD.out.new.row.own.lt z e).2
              omega
            have hx := (hN6.tm.mono (C' := fun z => InBox w w2.heap.size z ∧ (Value.slice p ts.length c).ownBlock ≠ some z) (fun z hz _ => ⟨InBox.of HBD.out.lt HBD.out.bxlt hz, hown z hz⟩)).ms
            have HBZ := Lib.hid (HB6.out.app hbw hA hx)
            have HWZ := Lib.hid (show wtS (ts ++ [t6]) ≤ (j + 1) * (m + 1) by
              have := HWT.out
              rw [wtS_append, Nat.add_mul]
              simp only [wtS]
              omega)
            clear hx hown hA hw6 hN6 hc6 hg6 d4 d4z d5 d6b d6 d6z g0 g1 g2 g3 g4 g5 g6 g7 g8 gz
            go_wp2_with fail
            go_roundw
            case rel => exact ⟨j + 1, ts ++ [t6], some ⟨g2', 0, none⟩, cap2, _, Or.inl (by omega), by go_num, by simp [HL.out], HWZ.out, HBZ.out⟩
            case measure => simp [intOf]; omega
        · obtain ⟨⟨x0, x1, x2, x3, x4, x5, x6, x7, x8⟩, xz⟩ := hb.rdy.facts
          clear hb
          go_wp2_with fail
          refine bodyPost_ret (v := tmV (.mk 8 a ⟨#[]⟩ 0 (.mk 0 []) (.mk 0 []) ts) none 0 none 0 p c) ?_ rfl ?_
          · rw [results_cell1 rfl]
            go_simp
            all_goals (repeat' apply And.intro) <;> rfl
          · have := HB.out.fin hbw (wt_of (k := 8) (n := 0) (a := a) (o := ⟨#[]⟩) (ty := (.mk 0 [])) (res := (.mk 0 [])) (ts := ts) (m := m) HSa.out (by decide) (by simp [Ty.nodes, nodesS]) (by simp [Ty.nodes, nodesS]) j3 HWT.out)
            rw [setN9] at this
            exact this
    · skip
      have hp3 := pickS_litG [⟨#[120]⟩, ⟨#[121]⟩, ⟨#[102]⟩] 3 b _ #[.string ⟨#[120]⟩, .string ⟨#[121]⟩, .string ⟨#[102]⟩] rfl (by decide) (by decide) rfl HBX0.out.rdy.cur
      rw [World.size_alloc] at hp3
      have HP3 := Lib.hid hp3
      clear hp3
      go_wp2_with fail
      refine HP3.out.mono ?_
      rintro e w3 ⟨a, ha, rfl, hc3, hg3⟩
      have HSa := Lib.hid (show a.size ≤ 1 by simp at ha; rcases ha with rfl | rfl | rfl <;> decide)
      have hbx3 := HBX0.out.step hbw hc3 hg3
      have HBX3 := Lib.hid hbx3
      clear ha hc3 hg3 HP3
      obtain ⟨⟨g0, g1, g2, g3, g4, g5, g6, g7, g8⟩, gz⟩ := hbx3.facts
      clear hbx3
      have HBM := Lib.hid (HBX3.out.setName hbw a)
      go_wp2_with fail
      refine (draw_any 2 (by decide) (by decide) b _ HBM.out.rdy.cur).mono ?_
      rintro e w4 ⟨v4, u, rfl, hn4, hn, hc4, hg4⟩
      obtain ⟨s4, rfl, hs4⟩ := hn.tt
      obtain ⟨q4, d4, rfl⟩ := hs4.form
      have hbx4 := HBM.out.step hbw hc4 hg4
      have HBX4 := Lib.hid hbx4
      have HT4 := Lib.hid (hs4.mono (C' := fun z => InBox w w2.heap.size z ∧ (Value.slice none 0 0).ownBlock ≠ some z) (fun z hz _ => ⟨InBox.of HBM.out.lt HBM.out.bxlt hz, by simp [Value.ownBlock]⟩))
      have HN4 := Lib.hid hn4
      clear hn4 hn hs4 hc4 hg4
      clear g0 g1 g2 g3 g4 g5 g6 g7 g8 gz
      obtain ⟨⟨g0, g1, g2, g3, g4, g5, g6, g7, g8⟩, gz⟩ := hbx4.facts
      clear hbx4
      have HBO := Lib.hid (HBX4.out.setTy hbw HT4.out)
      have hp6 := pickS_litG [⟨#[122]⟩, ⟨#[119]⟩] 2 b _ #[.string ⟨#[122]⟩, .string ⟨#[119]⟩] rfl (by decide) (by decide) rfl HBO.out.rdy.cur
      rw [World.size_setCell, World.size_setCell] at hp6
      have HP6 := Lib.hid hp6
      clear hp6
      go_wp2_with fail
      refine HP6.out.mono ?_
      rintro e w6 ⟨o, ho, rfl, hc6, hg6⟩
      have HSo := Lib.hid (show o.size ≤ 1 by simp at ho; rcases ho with rfl | rfl <;> decide)
      have hbx6 := HBO.out.step hbw hc6 hg6
      have HBX6 := Lib.hid hbx6
      clear ho hc6 hg6 HP6
      clear g0 g1 g2 g3 g4 g5 g6 g7 g8 gz
      obtain ⟨⟨g0, g1, g2, g3, g4, g5, g6, g7, g8⟩, gz⟩ := hbx6.facts
      clear hbx6
      have HBP := Lib.hid (HBX6.out.setOther hbw o)
      go_wp2_with fail
      refine (draw_any 2 (by decide) (by decide) b _ HBP.out.rdy.cur).mono ?_
      rintro e w7 ⟨v7, x, rfl, hn7, hn, hc7, hg7⟩
      obtain ⟨s7, rfl, hs7⟩ := hn.tt
      obtain ⟨q7, d7, rfl⟩ := hs7.form
      have hbx7 := HBP.out.step hbw hc7 hg7
      have HBX7 := Lib.hid hbx7
      have HT7 := Lib.hid (hs7.mono (C' := fun z => InBox w w2.heap.size z ∧ (Value.slice none 0 0).ownBlock ≠ some z) (fun z hz _ => ⟨InBox.of HBP.out.lt HBP.out.bxlt hz, by simp [Value.ownBlock]⟩))
      have HN7 := Lib.hid hn7
      clear hn7 hn hs7 hc7 hg7
      clear g0 g1 g2 g3 g4 g5 g6 g7 g8 gz
      obtain ⟨⟨g0, g1, g2, g3, g4, g5, g6, g7, g8⟩, gz⟩ := hbx7.facts
      clear hbx7
      have HBA := Lib.hid (HBX7.out.setRes hbw HT7.out)
      go_wp2_with fail
      refine (arityS_any (.mk 9 a o 0 u x []) q4 d4 q7 d7 none 0 _).mono ?_
      rintro e w5 ⟨rfl, hb5⟩
      have HBX5 := Lib.hid (HBA.out.below hb5)
      obtain ⟨N, hN⟩ : ∃ N, (Tm.mk 9 a o 0 u x []).arity = N := ⟨_, rfl⟩
      have hr : -1 ≤ N ∧ N ≤ 3 := hN ▸ arK_range _ _ (opAr_range _)
      obtain ⟨hr0, hr3⟩ := hr
      rw [hN]
      clear hN hb5 g0 g1 g2 g3 g4 g5 g6 g7 g8 gz
      go_wp2_with fail
      go_loopw [7] (fun i wr => ∃ (j : Nat) (ts : List Tm) (p : Option Addr) (c : Nat) (xs : List Value), ((j : Int) ≤ N ∨ j = 0) ∧ i = .int .i64 j ∧ ts.length = j ∧ wtS ts ≤ j * (m + 1) ∧ BoxM w b w2.heap.size wr (.mk 9 a o 0 u x ts) q4 d4 q7 d7 p c xs) (fun i _ => N.toNat - (intOf i).toNat)
      case atStart => exact ⟨0, [], none, 0, [], Or.inr rfl, rfl, rfl, by simp [wtS], HBX5.out⟩
      case round =>
        obtain ⟨j, ts, p, c, xs, hj, rfl, hl, hw, hb⟩ := hrel
        obtain ⟨⟨g0, g1, g2, g3, g4, g5, g6, g7, g8⟩, gz⟩ := hb.facts
        have HB := Lib.hid hb
        have HWT := Lib.hid hw
        have HL := Lib.hid hl
        have hl3 : ts.length ≤ 3 := by omega
        have j0 : (0 : Int) ≤ (j : Int) := Int.natCast_nonneg _
        have j3 : j ≤ 3 := by omega
        clear hw hl
        by_cases hlt : (j : Int) < N
        · have hbd := hb.below (Below.refl _ wr).drew
          have HBD := Lib.hid hbd
          have hiw := HIH.out b wr.drew hbd.rdy.cur
          rw [← HWR.out] at hiw
          have HIW := Lib.hid hiw
          clear hiw
          clear hb hbd
          go_wp2_with fail
          go_region_law (first
            | (refine step_app1 (w0 := w6) (v := .slice p ts.length c) (n := ts.length) (xs := xs) rfl (.tmp 65) (.tmp 70) rfl Tryz.underlying27 hi hz0 hz1 hz2 rfl (by decide) rfl HB6.out.new.row.own _ rfl (by simp) rfl (fun u hu => by simp at hu; rcases hu with rfl | rfl | rfl | rfl | rfl | rfl | rfl | rfl | rfl <;> rfl) (by unfold maxLen; omega) (by omega) (by have := HB6.out.bxlt; have := HB6.out.lt; omega) ?_; intro w' g2' cap2 hA; have d6b := (hA.kept w2.heap.size HB6.out.bxlt (fun e => (HB6.out.new.row.blk _ e).2 rfl)).1.trans HB6.out.box; have d6 : w'.cell? ⟨w2.heap.size, 8, none⟩ = some (.slice p ts.length c) := cell_of_blk d6b 8; have d6z := unfrozen_of_blk d6b)
            | (go_simp; go_at_call 82; refine HIW.out.mono ?_; rintro e w6 ⟨t6, tp6, tc6, rp6, rc6, p6, c6, xs6, rfl, hw6, hN6, hc6, hg6⟩; have hb6 := HBD.out.step hbw hc6 hg6; have HB6 := Lib.hid hb6; have d4 : w6.cell? ⟨w2.heap.size, 8, none⟩ = some (.slice p ts.length c) := hb6.facts.1.2.2.2.2.2.2.2.2; have d4z := hb6.facts.2; have d5 := fun (o : Obj) => al_cell d4 o; clear hb6))
          all_goals
            have hown : ∀ z, wr.drew.heap.size ≤ z → (Value.slice p ts.length c).ownBlock ≠ some z := fun z hz e => by
              have := (HBD.out.new.row.own.lt z e).2
              omega
            have hx := (hN6.tm.mono (C' := fun z => InBox w w2.heap.size z ∧ (Value.slice p ts.length c).ownBlock ≠ some z) (fun z hz _ => ⟨InBox.of HBD.out.lt HBD.out.bxlt hz, hown z hz⟩)).ms
            have HBZ := Lib.hid (HB6.out.app hbw hA hx)
            have HWZ := Lib.hid (show wtS (ts ++ [t6]) ≤ (j + 1) * (m + 1) by
              have := HWT.out
              rw [wtS_append, Nat.add_mul]
              simp only [wtS]
              omega)
            clear hx hown hA hw6 hN6 hc6 hg6 d4 d4z d5 d6b d6 d6z g0 g1 g2 g3 g4 g5 g6 g7 g8 gz
            go_wp2_with fail
            go_roundw
            case rel => exact ⟨j + 1, ts ++ [t6], some ⟨g2', 0, none⟩, cap2, _, Or.inl (by omega), by go_num, by simp [HL.out], HWZ.out, HBZ.out⟩
            case measure => simp [intOf]; omega
        · obtain ⟨⟨x0, x1, x2, x3, x4, x5, x6, x7, x8⟩, xz⟩ := hb.rdy.facts
          clear hb
          go_wp2_with fail
          refine bodyPost_ret (v := tmV (.mk 9 a o 0 u x ts) q4 d4 q7 d7 p c) ?_ rfl ?_
          · rw [results_cell1 rfl]
            go_simp
            all_goals (repeat' apply And.intro) <;> rfl
          · have := HB.out.fin hbw (wt_of (k := 9) (n := 0) (a := a) (o := o) (ty := u) (res := x) (ts := ts) (m := m) HSa.out HSo.out HN4.out HN7.out j3 HWT.out)
            rw [setN9] at this
            exact this
    · have e4 : (y == 4) = false := by rw [beq_eq_false_iff_ne]; omega
      have e6 : (y == 6) = false := by rw [beq_eq_false_iff_ne]; omega
      have e8 : (y == 8) = false := by rw [beq_eq_false_iff_ne]; omega
      have e9 : (y == 9) = false := by rw [beq_eq_false_iff_ne]; omega
      have HBA := Lib.hid (HBX0.out)
      go_wp2_with fail
      refine (arityS_any (.mk y ⟨#[]⟩ ⟨#[]⟩ 0 (.mk 0 []) (.mk 0 []) []) none 0 none 0 none 0 _).mono ?_
      rintro e w5 ⟨rfl, hb5⟩
      have HBX5 := Lib.hid (HBA.out.below hb5)
      obtain ⟨N, hN⟩ : ∃ N, (Tm.mk y ⟨#[]⟩ ⟨#[]⟩ 0 (.mk 0 []) (.mk 0 []) []).arity = N := ⟨_, rfl⟩
      have hr : -1 ≤ N ∧ N ≤ 3 := hN ▸ arK_range _ _ (opAr_range _)
      obtain ⟨hr0, hr3⟩ := hr
      rw [hN]
      clear hN hb5
      go_wp2_with fail
      go_loopw [7] (fun i wr => ∃ (j : Nat) (ts : List Tm) (p : Option Addr) (c : Nat) (xs : List Value), ((j : Int) ≤ N ∨ j = 0) ∧ i = .int .i64 j ∧ ts.length = j ∧ wtS ts ≤ j * (m + 1) ∧ BoxM w b w2.heap.size wr (.mk y ⟨#[]⟩ ⟨#[]⟩ 0 (.mk 0 []) (.mk 0 []) ts) none 0 none 0 p c xs) (fun i _ => N.toNat - (intOf i).toNat)
      case atStart => exact ⟨0, [], none, 0, [], Or.inr rfl, rfl, rfl, by simp [wtS], HBX5.out⟩
      case round =>
        obtain ⟨j, ts, p, c, xs, hj, rfl, hl, hw, hb⟩ := hrel
        obtain ⟨⟨g0, g1, g2, g3, g4, g5, g6, g7, g8⟩, gz⟩ := hb.facts
        have HB := Lib.hid hb
        have HWT := Lib.hid hw
        have HL := Lib.hid hl
        have hl3 : ts.length ≤ 3 := by omega
        have j0 : (0 : Int) ≤ (j : Int) := Int.natCast_nonneg _
        have j3 : j ≤ 3 := by omega
        clear hw hl
        by_cases hlt : (j : Int) < N
        · have hbd := hb.below (Below.refl _ wr).drew
          have HBD := Lib.hid hbd
          have hiw := HIH.out b wr.drew hbd.rdy.cur
          rw [← HWR.out] at hiw
          have HIW := Lib.hid hiw
          clear hiw
          clear hb hbd
          go_wp2_with fail
          go_region_law (first
            | (refine step_app1 (w0 := w6) (v := .slice p ts.length c) (n := ts.length) (xs := xs) rfl (.tmp 65) (.tmp 70) rfl Tryz.underlying27 hi hz0 hz1 hz2 rfl (by decide) rfl HB6.out.new.row.own _ rfl (by simp) rfl (fun u hu => by simp at hu; rcases hu with rfl | rfl | rfl | rfl | rfl | rfl | rfl | rfl | rfl <;> rfl) (by unfold maxLen; omega) (by omega) (by have := HB6.out.bxlt; have := HB6.out.lt; omega) ?_; intro w' g2' cap2 hA; have d6b := (hA.kept w2.heap.size HB6.out.bxlt (fun e => (HB6.out.new.row.blk _ e).2 rfl)).1.trans HB6.out.box; have d6 : w'.cell? ⟨w2.heap.size, 8, none⟩ = some (.slice p ts.length c) := cell_of_blk d6b 8; have d6z := unfrozen_of_blk d6b)
            | (go_simp; go_at_call 82; refine HIW.out.mono ?_; rintro e w6 ⟨t6, tp6, tc6, rp6, rc6, p6, c6, xs6, rfl, hw6, hN6, hc6, hg6⟩; have hb6 := HBD.out.step hbw hc6 hg6; have HB6 := Lib.hid hb6; have d4 : w6.cell? ⟨w2.heap.size, 8, none⟩ = some (.slice p ts.length c) := hb6.facts.1.2.2.2.2.2.2.2.2; have d4z := hb6.facts.2; have d5 := fun (o : Obj) => al_cell d4 o; clear hb6))
          all_goals
            have hown : ∀ z, wr.drew.heap.size ≤ z → (Value.slice p ts.length c).ownBlock ≠ some z := fun z hz e => by
              have := (HBD.out.new.row.own.lt z e).2
              omega
            have hx := (hN6.tm.mono (C' := fun z => InBox w w2.heap.size z ∧ (Value.slice p ts.length c).ownBlock ≠ some z) (fun z hz _ => ⟨InBox.of HBD.out.lt HBD.out.bxlt hz, hown z hz⟩)).ms
            have HBZ := Lib.hid (HB6.out.app hbw hA hx)
            have HWZ := Lib.hid (show wtS (ts ++ [t6]) ≤ (j + 1) * (m + 1) by
              have := HWT.out
              rw [wtS_append, Nat.add_mul]
              simp only [wtS]
              omega)
            clear hx hown hA hw6 hN6 hc6 hg6 d4 d4z d5 d6b d6 d6z g0 g1 g2 g3 g4 g5 g6 g7 g8 gz
            go_wp2_with fail
            go_roundw
            case rel => exact ⟨j + 1, ts ++ [t6], some ⟨g2', 0, none⟩, cap2, _, Or.inl (by omega), by go_num, by simp [HL.out], HWZ.out, HBZ.out⟩
            case measure => simp [intOf]; omega
        · obtain ⟨⟨x0, x1, x2, x3, x4, x5, x6, x7, x8⟩, xz⟩ := hb.rdy.facts
          clear hb
          go_wp2_with fail
          refine bodyPost_ret (v := tmV (.mk y ⟨#[]⟩ ⟨#[]⟩ 0 (.mk 0 []) (.mk 0 []) ts) none 0 none 0 p c) ?_ rfl ?_
          · rw [results_cell1 rfl]
            go_simp
            all_goals (repeat' apply And.intro) <;> rfl
          · have := HB.out.fin hbw (wt_of (k := y) (n := 0) (a := ⟨#[]⟩) (o := ⟨#[]⟩) (ty := (.mk 0 [])) (res := (.mk 0 [])) (ts := ts) (m := m) (by decide) (by decide) (by simp [Ty.nodes, nodesS]) (by simp [Ty.nodes, nodesS]) j3 HWT.out)
            rw [setN9] at this
            exact this
end Go.Proofs.YtfeijijeohfpgaaGreatDoor
namespace Go.Proofs.YtfeijijeohfpgaaGreatDoor
open Go Go.RowKit

set_option maxRecDepth 100000 in
set_option maxHeartbeats 2000000 in
theorem anyM_one (b : Nat) (w : World) (hc : Cur w b) : Calls Tryz.prog 82 #[.pointer (some ⟨b, 0, none⟩), .int .i64 1] w (DrawM 1 b w) := by
  have hbw := hc.lt
  have HR0 := Lib.hid (RdyM.start hc)
  clear hc
  go_enter Tryz.func82, Tryz.ntmps82
  go_wp2_with fail
  refine (leafM_any b _ HR0.out.cur).mono ?_
  rintro e w2 ⟨k, s, n, rfl, hs, hc2, hg2⟩
  have hr2 := HR0.out.step hbw hc2 hg2
  have HR2 := Lib.hid hr2
  obtain ⟨⟨g0, g1, g2, g3, g4, g5, g6, g7, g8⟩, gz⟩ := hr2.facts
  clear hr2 hc2 hg2
  go_wp2_with fail
  refine bodyPost_ret (v := leafV k s n) ?_ rfl ?_
  · rw [results_cell1 rfl]
    go_simp
  · have := leaf_draw (m := 1) HR2.out hbw k s n (by omega)
    rw [setN9] at this
    exact this
theorem DrawM.mono {m m' b : Nat} {w w' : World} {e : Ending} (h : DrawM m b w e w') (hm : m ≤ m') : DrawM m' b w e w' := by
  obtain ⟨t, tp, tc, rp, rc, p, c, xs, h1, h2, h3⟩ := h
  exact ⟨t, tp, tc, rp, rc, p, c, xs, h1, Nat.le_trans h2 hm, h3⟩
theorem anyM_any (D : Int) (h1 : 1 ≤ D) (h4 : D ≤ 4) (b : Nat) (w : World) (hc : Cur w b) : Calls Tryz.prog 82 #[.pointer (some ⟨b, 0, none⟩), .int .i64 D] w (DrawM 144 b w) := by
  have s2 := fun b w (hc : Cur w b) => anyM_step 1 2 (by decide) (by decide) (by decide) anyM_one b w hc
  have s3 := fun b w (hc : Cur w b) => anyM_step 12 3 (by decide) (by decide) (by decide) s2 b w hc
  have s4 := fun b w (hc : Cur w b) => anyM_step 45 4 (by decide) (by decide) (by decide) s3 b w hc
  rcases (show D = 1 ∨ D = 2 ∨ D = 3 ∨ D = 4 by omega) with rfl | rfl | rfl | rfl
  · exact (anyM_one b w hc).mono fun _ _ h => h.mono (by decide)
  · exact (s2 b w hc).mono fun _ _ h => h.mono (by decide)
  · exact (s3 b w hc).mono fun _ _ h => h.mono (by decide)
  · exact (s4 b w hc).mono fun _ _ h => h.mono (by decide)
end Go.Proofs.YtfeijijeohfpgaaGreatDoor
namespace Go.Proofs.YtfeijijeohfpgaaGreatDoor
open Go Go.RowKit
def GenT (N b : Nat) (w : World) (e : Ending) (w' : World) : Prop := ∃ (x : Tm) (v : Value), e = .returned v ∧ x.wt ≤ N ∧ TM w' (fun z => w.heap.size ≤ z) x v ∧ Cur w' b ∧ w.grownBy w' (some b)
theorem grown_stays {C : Nat → Prop} {w w' : World} {b : Nat} (hg : w.grownBy w' (some b)) (hC : ∀ z, C z → z ≠ b) : Stays C w w' :=
  ⟨hg.size, fun z hz hl => hg.block z hl (fun e => hC z hz (Option.some.inj e))⟩
structure Slot (w : World) (b r : Nat) (W : World) : Prop where
  cur : Cur W b
  grown : w.grownBy W (some b)
  box : W.heap[r]? = some (.cells zero9 29 (0, 0))
  lo : w.heap.size ≤ r
  bw : b < w.heap.size
section
variable {w W W' : World} {b r : Nat}
theorem Slot.lt (h : Slot w b r W) : r < W.heap.size := (Array.getElem?_eq_some_iff.1 h.box).1
theorem Slot.step (h : Slot w b r W) (hc : Cur W' b) (hg : W.grownBy W' (some b)) : Slot w b r W' :=
  ⟨hc, grownBy_trans h.grown hg, (hg.block _ h.lt (fun e => by have := Option.some.inj e; have := h.lo; have := h.bw; omega)).trans h.box, h.lo, h.bw⟩
theorem Slot.below (h : Slot w b r W) (hb : Below W.heap.size W W') : Slot w b r W' :=
  ⟨h.cur.below hb, grown_below h.grown h.grown.size hb, (hb.block _ h.lt).trans h.box, h.lo, h.bw⟩
theorem Slot.fin {N : Nat} {x : Tm} {tp rp p : Option Addr} {tc rc c : Nat} (h : Slot w b r W) (hN : x.wt ≤ N) (hx : TM' W (fun z => w.heap.size ≤ z ∧ z ≠ r) x tp tc rp rc p c) :
    GenT N b w (.returned (tmV x tp tc rp rc p c)) (setN W r 0 [.int .i64 x.kind, .string x.name, .string x.other, .int .i64 x.n, .int .i64 x.ty.kind, .slice tp x.ty.args.length tc, .int .i64 x.res.kind, .slice rp x.res.args.length rc, .slice p x.args.length c]) :=
  have hb := fun vs => setN_below vs w.heap.size W r 0 h.lo
  ⟨x, _, rfl, hN, ⟨tp, tc, rp, rc, p, c, rfl, (hx.stays (setN_stays _ _ W r 0 (fun hc => hc.2 rfl))).mono (fun z hz _ => hz.1)⟩, h.cur.belowAt h.bw (hb _), grown_below h.grown (Nat.le_refl _) (hb _)⟩
theorem Slot.fin9 {N : Nat} {x : Tm} {tp rp p : Option Addr} {tc rc c : Nat} (h : Slot w b r W) (hN : x.wt ≤ N) (hx : TM' W (fun z => w.heap.size ≤ z ∧ z ≠ r) x tp tc rp rc p c) :
    GenT N b w (.returned (tmV x tp tc rp rc p c)) (((((((((W.setCell ⟨r, 0, none⟩ (.int .i64 x.kind)).setCell ⟨r, 1, none⟩ (.string x.name)).setCell ⟨r, 2, none⟩ (.string x.other)).setCell ⟨r, 3, none⟩ (.int .i64 x.n)).setCell ⟨r, 4, none⟩ (.int .i64 x.ty.kind)).setCell ⟨r, 5, none⟩ (.slice tp x.ty.args.length tc)).setCell ⟨r, 6, none⟩ (.int .i64 x.res.kind)).setCell ⟨r, 7, none⟩ (.slice rp x.res.args.length rc)).setCell ⟨r, 8, none⟩ (.slice p x.args.length c)) := h.fin hN hx
theorem Slot.finA {w W : World} {b r N : Nat} {z : Tm} {tp rp p : Option Addr} {tc rc c : Nat} (q : Int) (h : Slot w b r W) (hN : z.wt + 1 ≤ N) (hz : TM' W (fun zz => w.heap.size ≤ zz ∧ zz ≠ r) z tp tc rp rc p c) :
    GenT N b w (.returned (tmV (.mk q ⟨#[]⟩ ⟨#[]⟩ 0 zTy zTy [z]) none 0 none 0 (some ⟨W.heap.size, 0, none⟩) 1)) ((((((((((W.setCell ⟨r, 0, none⟩ (.int .i64 q)).setCell ⟨r, 1, none⟩ (.string ⟨#[]⟩)).setCell ⟨r, 2, none⟩ (.string ⟨#[]⟩)).setCell ⟨r, 3, none⟩ (.int .i64 0)).setCell ⟨r, 4, none⟩ (.int .i64 0)).setCell ⟨r, 5, none⟩ (.slice none 0 0)).setCell ⟨r, 6, none⟩ (.int .i64 0)).setCell ⟨r, 7, none⟩ (.slice none 0 0)).setCell ⟨r, 8, none⟩ (.slice (some ⟨W.heap.size, 0, none⟩) 1 1)).alloc (.cells #[.int .i64 z.kind, .string z.name, .string z.other, .int .i64 z.n, .int .i64 z.ty.kind, .slice tp z.ty.args.length tc, .int .i64 z.res.kind, .slice rp z.res.args.length rc, .slice p z.args.length c] 29)) := by
  have hb := setN_below [.int .i64 q, .string ⟨#[]⟩, .string ⟨#[]⟩, .int .i64 0, .int .i64 0, .slice none 0 0, .int .i64 0, .slice none 0 0, .slice (some ⟨W.heap.size, 0, none⟩) 1 1] w.heap.size W r 0 h.lo
  have hst := setN_stays [.int .i64 q, .string ⟨#[]⟩, .string ⟨#[]⟩, .int .i64 0, .int .i64 0, .slice none 0 0, .int .i64 0, .slice none 0 0, .slice (some ⟨W.heap.size, 0, none⟩) 1 1] (fun zz => w.heap.size ≤ zz ∧ zz ≠ r) W r 0 (fun hc => hc.2 rfl)
  have hsz : (setN W r 0 [.int .i64 q, .string ⟨#[]⟩, .string ⟨#[]⟩, .int .i64 0, .int .i64 0, .slice none 0 0, .int .i64 0, .slice none 0 0, .slice (some ⟨W.heap.size, 0, none⟩) 1 1]).heap.size = W.heap.size := by simp [setN]
  have hbn := blk_new (setN W r 0 [.int .i64 q, .string ⟨#[]⟩, .string ⟨#[]⟩, .int .i64 0, .int .i64 0, .slice none 0 0, .int .i64 0, .slice none 0 0, .slice (some ⟨W.heap.size, 0, none⟩) 1 1]) (.cells #[.int .i64 z.kind, .string z.name, .string z.other, .int .i64 z.n, .int .i64 z.ty.kind, .slice tp z.ty.args.length tc, .int .i64 z.res.kind, .slice rp z.res.args.length rc, .slice p z.args.length c] 29)
  have hal := al_below (setN W r 0 [.int .i64 q, .string ⟨#[]⟩, .string ⟨#[]⟩, .int .i64 0, .int .i64 0, .slice none 0 0, .int .i64 0, .slice none 0 0, .slice (some ⟨W.heap.size, 0, none⟩) 1 1]) (.cells #[.int .i64 z.kind, .string z.name, .string z.other, .int .i64 z.n, .int .i64 z.ty.kind, .slice tp z.ty.args.length tc, .int .i64 z.res.kind, .slice rp z.res.args.length rc, .slice p z.args.length c] 29)
  rw [hsz] at hbn
  refine ⟨.mk q ⟨#[]⟩ ⟨#[]⟩ 0 zTy zTy [z], _, rfl, ?_, ⟨none, 0, none, 0, _, 1, rfl, ⟨.nil _ _, .nil _ _, dm_lit (ts := [z]) hbn (ms_one ((hz.stays (hst.trans (.of_below hal))).mono (fun zz hzz _ => hzz.1))) h.grown.size (by simp) (by simp)⟩⟩, (h.cur.belowAt h.bw hb).below hal, grown_below (grown_below h.grown (Nat.le_refl _) hb) (by rw [hsz]; exact h.grown.size) hal⟩
  have e1 : (⟨#[]⟩ : ByteArray).size = 0 := rfl
  have e2 : nodesS zTy.args = 0 := rfl
  simp only [Tm.wt, wtS, e1, e2]
  omega
theorem keep9 {W : World} {r z i : Nat} {o : Option Value} {v0 v1 v2 v3 v4 v5 v6 v7 v8 : Value} (h : W.cell? ⟨z, i, none⟩ = o) (hz : z ≠ r) : (((((((((W.setCell ⟨r, 0, none⟩ v0).setCell ⟨r, 1, none⟩ v1).setCell ⟨r, 2, none⟩ v2).setCell ⟨r, 3, none⟩ v3).setCell ⟨r, 4, none⟩ v4).setCell ⟨r, 5, none⟩ v5).setCell ⟨r, 6, none⟩ v6).setCell ⟨r, 7, none⟩ v7).setCell ⟨r, 8, none⟩ v8).cell? ⟨z, i, none⟩ = o := by
  have ne : ∀ k, (⟨r, k, none⟩ : Addr) ≠ ⟨z, i, none⟩ := fun k e => hz (congrArg Addr.block e).symm
  rw [World.cell?_setCell_other _ _ _ _ (ne 8), World.cell?_setCell_other _ _ _ _ (ne 7), World.cell?_setCell_other _ _ _ _ (ne 6), World.cell?_setCell_other _ _ _ _ (ne 5), World.cell?_setCell_other _ _ _ _ (ne 4), World.cell?_setCell_other _ _ _ _ (ne 3), World.cell?_setCell_other _ _ _ _ (ne 2), World.cell?_setCell_other _ _ _ _ (ne 1), World.cell?_setCell_other _ _ _ _ (ne 0)]
  exact h
theorem leaf_wt (k : Int) (s : ByteArray) (n : Int) : (leaf k s n).wt = s.size := rfl
theorem leaf_tm' (w : World) (C : Nat → Prop) (k : Int) (s : ByteArray) (n : Int) : TM' w C (leaf k s n) none 0 none 0 none 0 := (leaf_new w 0 C k s n).tm
end

set_option maxRecDepth 100000 in
set_option maxHeartbeats 1000000 in
theorem small_step {C : Nat → Prop} (t : Ty) (b : Nat) (n : Int) (v : Value) (w : World) (hf : t.form = true) (hn : t.nodes ≤ 100) (hT : TT w C t v) (hCb : ∀ z, C z → z ≠ b) (hc : Cur w b)
    (IH : ∀ (u : Ty) (n' : Int) (vu : Value) (W : World), u ∈ t.args → TT W C u vu → Cur W b → Calls Tryz.prog 143 #[.pointer (some ⟨b, 0, none⟩), vu, .int .i64 n'] W (GenT u.nodes b W)) :
    Calls Tryz.prog 143 #[.pointer (some ⟨b, 0, none⟩), v, .int .i64 n] w (GenT t.nodes b w) := by
  have hbw := hc.lt
  obtain ⟨s, rfl, hs⟩ := hT
  obtain ⟨q, d, rfl⟩ := hs.form
  obtain ⟨wl, hwl, hsz, hbl, qt, qr⟩ := box_new2 w #[.int .i64 t.kind, .slice q t.args.length d] zero9 26 29
  have HS0 : Hid (Slot w b (w.heap.size + 1) wl) := Lib.hid ⟨hc.below hbl, grown_below (grownB_refl w _) (Nat.le_refl _) hbl, qr, by omega, hbw⟩
  have HWL := Lib.hid hwl
  have HQT := Lib.hid qt
  have HSZ := Lib.hid hsz
  have HBL := Lib.hid hbl
  clear hwl hsz hbl qt qr hc
  rcases form_cases hf with rfl | rfl | ⟨x, y, rfl, hx, hy⟩ | ⟨x, rfl, hx⟩
  · go_enter Tryz.func143, Tryz.ntmps143
    go_wp2_with fail
    rw [show (w.alloc (.cells #[.int .i64 1, .slice q 0 d] 26)).alloc (.cells zero9 29) = wl from HWL.out]
    refine (below_any b 4 wl (by decide) (by decide) HS0.out.cur).mono ?_
    rintro e w1 ⟨k, hk, rfl, hc1, hg1⟩
    have HS1 := Lib.hid (HS0.out.step hc1 hg1)
    clear hc1 hg1
    go_wp2_with fail
    refine (l5Int_any k w1).mono ?_
    rintro e w2 ⟨rfl, hb2⟩
    have HS2 := Lib.hid (HS1.out.below hb2)
    obtain ⟨⟨r0, r1, r2, r3, r4, r5, r6, r7, r8⟩, rz⟩ := zero9_facts HS2.out.box
    clear hb2
    go_wp2_with fail
    refine bodyPost_ret (v := leafV 2 ⟨#[]⟩ k) ?_ rfl ?_
    · rw [results_cell1 rfl]
      go_simp
    · exact HS2.out.fin9 (by rw [leaf_wt]; exact Nat.zero_le _) (leaf_tm' _ _ 2 ⟨#[]⟩ k)
  · go_enter Tryz.func143, Tryz.ntmps143
    go_wp2_with fail
    rw [show (w.alloc (.cells #[.int .i64 2, .slice q 0 d] 26)).alloc (.cells zero9 29) = wl from HWL.out]
    refine (below_any b 2 wl (by decide) (by decide) HS0.out.cur).mono ?_
    rintro e w1 ⟨k, hk, rfl, hc1, hg1⟩
    have HS1 := Lib.hid (HS0.out.step hc1 hg1)
    clear hc1 hg1
    go_wp2_with fail
    refine (l5Bool_any k w1).mono ?_
    rintro e w2 ⟨rfl, hb2⟩
    have HS2 := Lib.hid (HS1.out.below hb2)
    obtain ⟨⟨r0, r1, r2, r3, r4, r5, r6, r7, r8⟩, rz⟩ := zero9_facts HS2.out.box
    clear hb2
    go_wp2_with fail
    refine bodyPost_ret (v := leafV 3 ⟨#[]⟩ k) ?_ rfl ?_
    · rw [results_cell1 rfl]
      go_simp
    · exact HS2.out.fin9 (by rw [leaf_wt]; exact Nat.zero_le _) (leaf_tm' _ _ 3 ⟨#[]⟩ k)
  · obtain ⟨bo, oo, p0, c0, rfl, hc0, hT0⟩ := hs.at 0 x rfl
    obtain ⟨_, _, p1, c1, hq1, hc1, hT1⟩ := hs.at 1 y rfl
    simp only [Option.some.injEq, Addr.mk.injEq, and_true] at hq1
    obtain ⟨rfl, rfl⟩ := hq1
    have HST := Lib.hid (fun (W : World) (hW : wl.grownBy W (some b)) => grown_stays (C := C) (grownBy_trans (grown_below (grownB_refl w (some b)) (Nat.le_refl _) HBL.out) hW) hCb)
    have HF := Lib.hid (fun (W : World) (hW : wl.grownBy W (some b)) => show W.cell? ⟨w.heap.size, 1, none⟩ = some (.slice (some ⟨bo, oo, none⟩) 2 d) ∧ W.cell? ⟨bo, oo, none⟩ = some (.int .i64 x.kind) ∧ W.cell? ⟨bo, oo + 1, none⟩ = some (.slice p0 x.args.length c0) ∧ W.cell? ⟨bo, oo + 2, none⟩ = some (.int .i64 y.kind) ∧ W.cell? ⟨bo, oo + 2 + 1, none⟩ = some (.slice p1 y.args.length c1) from by
      have k0 := hc0 W (HST.out W hW)
      have k1 := hc1 W (HST.out W hW)
      exact ⟨cell_of_blk ((hW.block w.heap.size (by have := HSZ.out; omega) (fun e => by have := Option.some.inj e; omega)).trans HQT.out) 1, k0.1, k0.2, k1.1, k1.2⟩)
    have HT0 := Lib.hid hT0
    have HT1 := Lib.hid hT1
    have hbo : bo < w.heap.size := World.block_lt_of_cell? w _ (hc0 w (Stays.refl _ _)).1
    have HIH := Lib.hid IH
    have HG0 : Hid (wl.grownBy wl.drew (some b)) := Lib.hid (grown_drewB (grownB_refl wl _))
    have HSD := Lib.hid (HS0.out.below (Below.refl _ wl).drew)
    have HNX : Hid (nodesS x.args ≤ 1000) := Lib.hid (by simp only [Ty.nodes, nodesS] at hn; rw [x.nodes_eq] at hn; omega)
    have HNY : Hid (y.nodes ≤ 100) := Lib.hid (by simp only [Ty.nodes, nodesS] at hn; omega)
    clear IH hc0 hc1 hT0 hT1 hs
    go_enter Tryz.func143, Tryz.ntmps143
    go_wp2_with fail
    rw [show (w.alloc (.cells #[.int .i64 3, .slice (some ⟨bo, oo, none⟩) 2 d] 26)).alloc (.cells zero9 29) = wl from HWL.out]
    go_region_held3 (fun w' => w'.cell? ⟨w.heap.size, 1, none⟩ = some (.slice (some ⟨bo, oo, none⟩) 2 d) ∧ w'.cell? ⟨bo, oo, none⟩ = some (.int .i64 x.kind) ∧ w'.cell? ⟨bo, oo + 1, none⟩ = some (.slice p0 x.args.length c0) ∧ w'.cell? ⟨bo, oo + 2, none⟩ = some (.int .i64 y.kind) ∧ w'.cell? ⟨bo, oo + 2 + 1, none⟩ = some (.slice p1 y.args.length c1))
      (first
        | with_reducible exact HF.out _ HG0.out
        | with_reducible exact HF.out _ HG1.out
        | with_reducible exact HF.out _ HG2.out
        | (go_keep; done)
        | with_reducible exact ⟨keep9 (HF.out _ HG2.out).1 (by omega), keep9 (HF.out _ HG2.out).2.1 (by omega), keep9 (HF.out _ HG2.out).2.2.1 (by omega), keep9 (HF.out _ HG2.out).2.2.2.1 (by omega), keep9 (HF.out _ HG2.out).2.2.2.2 (by omega)⟩)
      (first
        | (go_at_call 143; refine (HIH.out y n _ wl.drew (by simp [Ty.args]) ⟨_, rfl, HT1.out.stays (HST.out _ HG0.out)⟩ HSD.out.cur).mono ?_; rintro e w1 ⟨z, v1, rfl, hz, hTz, hc1, hg1⟩; have HZ := Lib.hid hz; have HTZ := Lib.hid hTz; have HS1 := Lib.hid (HSD.out.step hc1 hg1); have HG1 : Hid (wl.grownBy w1 (some b)) := Lib.hid (grownBy_trans HG0.out hg1)
           clear hz hTz hc1 hg1)
        | (go_at_call 146; refine (lam_any (C := fun zz => C zz ∨ wl.drew.heap.size ≤ zz) ⟨#[119]⟩ (x := z) (t := x) ⟨_, rfl, (HT0.out.stays (HST.out _ HG1.out)).mono (fun zz hzz _ => Or.inl hzz)⟩ (HTZ.out.mono (fun zz hzz _ => Or.inr hzz)) HNX.out (by have := HZ.out; have := HNY.out; omega)).mono ?_
           rintro e w2 ⟨tp, tc, rp, rc, p, c, xs, rfl, hN, hb2⟩; have HN := Lib.hid hN; have HS2 := Lib.hid (HS1.out.below hb2); have HG2 : Hid (wl.grownBy w2 (some b)) := Lib.hid (grown_below HG1.out HG1.out.size hb2); have HB2 := Lib.hid hb2
           obtain ⟨⟨r0, r1, r2, r3, r4, r5, r6, r7, r8⟩, rz⟩ := zero9_facts HS2.out.box
           clear hN hb2))
    go_wp2_with fail
    refine bodyPost_ret (v := tmV (.mk 6 ⟨#[119]⟩ ⟨#[]⟩ 0 x zTy [z]) tp tc rp rc p c) ?_ rfl ?_
    · rw [results_cell1 rfl]
      go_simp
    · refine HS2.out.fin9 ?_ (HN.out.tm.mono (fun zz hzz _ => ?_))
      · have := HZ.out
        have e0 : (⟨#[119]⟩ : ByteArray).size = 1 := rfl
        have e1 : (⟨#[]⟩ : ByteArray).size = 0 := rfl
        have e2 : nodesS zTy.args = 0 := rfl
        simp only [Tm.wt, wtS, Ty.nodes, nodesS, x.nodes_eq, e0, e1, e2]
        omega
      · have := HS1.out.lt
        have hz' : w1.heap.size ≤ zz := hzz
        exact ⟨by omega, by omega⟩
  · obtain ⟨bo, oo, p0, c0, rfl, hc0, hT0⟩ := hs.at 0 x rfl
    have HST := Lib.hid (fun (W : World) (hW : wl.grownBy W (some b)) => grown_stays (C := C) (grownBy_trans (grown_below (grownB_refl w (some b)) (Nat.le_refl _) HBL.out) hW) hCb)
    have HF := Lib.hid (fun (W : World) (hW : wl.grownBy W (some b)) => show W.cell? ⟨w.heap.size, 1, none⟩ = some (.slice (some ⟨bo, oo, none⟩) 1 d) ∧ W.cell? ⟨bo, oo, none⟩ = some (.int .i64 x.kind) ∧ W.cell? ⟨bo, oo + 1, none⟩ = some (.slice p0 x.args.length c0) from by
      have k0 := hc0 W (HST.out W hW)
      exact ⟨cell_of_blk ((hW.block w.heap.size (by have := HSZ.out; omega) (fun e => by have := Option.some.inj e; omega)).trans HQT.out) 1, k0.1, k0.2⟩)
    have HT0 := Lib.hid hT0
    have hbo : bo < w.heap.size := World.block_lt_of_cell? w _ (hc0 w (Stays.refl _ _)).1
    have HIH := Lib.hid IH
    have HG0 : Hid (wl.grownBy wl.drew (some b)) := Lib.hid (grown_drewB (grownB_refl wl _))
    have HSD := Lib.hid (HS0.out.below (Below.refl _ wl).drew)
    have HNX : Hid (x.nodes ≤ 100) := Lib.hid (by simp only [Ty.nodes, nodesS] at hn; omega)
    have kw : (w.alloc (.cells #[.int .i64 4, .slice (some ⟨bo, oo, none⟩) 1 d] 26)).alloc (.cells zero9 29) = wl := HWL.out
    have k1 := (HF.out wl (grownB_refl wl _)).2.1
    have k2 := (HF.out wl (grownB_refl wl _)).2.2
    rw [← kw] at k1 k2
    clear IH hc0 hT0 hs kw
    go_enter Tryz.func143, Tryz.ntmps143
    go_wp2_with fail
    rw [show (w.alloc (.cells #[.int .i64 4, .slice (some ⟨bo, oo, none⟩) 1 d] 26)).alloc (.cells zero9 29) = wl from HWL.out]
    refine (HIH.out x _ _ wl (by simp [Ty.args]) ⟨_, rfl, HT0.out.stays (HST.out _ (grownB_refl wl _))⟩ HS0.out.cur).mono ?_
    rintro e w1 ⟨z, v1, rfl, hz, hTz, hc1, hg1⟩
    obtain ⟨tp, tc, rp, rc, p, c, rfl, hTz⟩ := hTz
    have HZ := Lib.hid hz
    have HTZ := Lib.hid hTz
    have HS1 := Lib.hid (HS0.out.step hc1 hg1)
    obtain ⟨⟨r0, r1, r2, r3, r4, r5, r6, r7, r8⟩, rz⟩ := zero9_facts HS1.out.box
    have hlt1 := HS1.out.lt
    have hgs := hg1.size
    clear hz hTz hc1 hg1 k1 k2
    go_wp2_with fail
    refine bodyPost_ret (v := tmV (.mk 10 ⟨#[]⟩ ⟨#[]⟩ 0 zTy zTy [z]) none 0 none 0 (some ⟨w1.heap.size, 0, none⟩) 1) ?_ rfl ?_
    · rw [results_cell1 rfl]
      go_simp
      all_goals (repeat' apply And.intro) <;> rfl
    · refine HS1.out.finA 10 ?_ (HTZ.out.mono (fun zz hzz _ => ?_))
      · have := HZ.out
        simp only [Ty.nodes, nodesS]
        omega
      · have hz' : wl.heap.size ≤ zz := hzz
        have := HSZ.out
        exact ⟨by omega, by omega⟩
theorem nodes_arg : ∀ (ts : List Ty) (u : Ty), u ∈ ts → u.nodes ≤ nodesS ts := fun ts => by
  induction ts with
  | nil => intro u hu; cases hu
  | cons a ts ih =>
    intro u hu
    simp only [nodesS]
    rcases List.mem_cons.1 hu with rfl | hu
    · omega
    · have := ih u hu
      omega
theorem form_arg : ∀ (ts : List Ty) (u : Ty), u ∈ ts → formS ts = true → u.form = true := fun ts => by
  induction ts with
  | nil => intro u hu; cases hu
  | cons a ts ih =>
    intro u hu hf
    rw [formS_cons] at hf
    rcases List.mem_cons.1 hu with rfl | hu
    · exact hf.1
    · exact ih u hu hf.2
theorem small_any {C : Nat → Prop} : ∀ (m : Nat) (t : Ty) (b : Nat) (n : Int) (v : Value) (w : World), t.nodes ≤ m → t.form = true → t.nodes ≤ 100 → TT w C t v → (∀ z, C z → z ≠ b) → Cur w b →
    Calls Tryz.prog 143 #[.pointer (some ⟨b, 0, none⟩), v, .int .i64 n] w (GenT t.nodes b w) := by
  intro m
  induction m with
  | zero => intro t b n v w hm; rw [t.nodes_eq] at hm; omega
  | succ m ih =>
    intro t b n v w hm hf hn hT hCb hc
    have hlt : ∀ u ∈ t.args, u.nodes + 1 ≤ t.nodes := fun u hu => by have := nodes_arg t.args u hu; rw [t.nodes_eq]; omega
    have hfa : ∀ u ∈ t.args, u.form = true := fun u hu => form_arg t.args u hu (by cases t; exact ((form_mk _ _).1 hf).1)
    exact small_step t b n v w hf hn hT hCb hc (fun u n' vu W hu hTu hcu => ih u b n' vu W (by have := hlt u hu; omega) (hfa u hu) (by have := hlt u hu; omega) hTu hCb hcu)
end Go.Proofs.YtfeijijeohfpgaaGreatDoor
namespace Go.Proofs.YtfeijijeohfpgaaGreatDoor
open Go Go.RowKit
def PickT (b : Nat) (w : World) (e : Ending) (w' : World) : Prop := ∃ (t : Ty) (v : Value), e = .returned v ∧ t.form = true ∧ t.nodes ≤ 3 ∧ TT w' (fun z => w.heap.size ≤ z) t v ∧ Cur w' b ∧ w.grownBy w' (some b)
structure SlotY (w : World) (b r : Nat) (W : World) : Prop where
  cur : Cur W b
  grown : w.grownBy W (some b)
  box : W.heap[r]? = some (.cells #[.int .i64 0, .slice none 0 0] 26 (0, 0))
  lo : w.heap.size ≤ r
  bw : b < w.heap.size
section
variable {w W W' : World} {b r : Nat}
theorem SlotY.lt (h : SlotY w b r W) : r < W.heap.size := (Array.getElem?_eq_some_iff.1 h.box).1
theorem SlotY.step (h : SlotY w b r W) (hc : Cur W' b) (hg : W.grownBy W' (some b)) : SlotY w b r W' :=
  ⟨hc, grownBy_trans h.grown hg, (hg.block _ h.lt (fun e => by have := Option.some.inj e; have := h.lo; have := h.bw; omega)).trans h.box, h.lo, h.bw⟩
theorem SlotY.below (h : SlotY w b r W) (hb : Below W.heap.size W W') : SlotY w b r W' :=
  ⟨h.cur.below hb, grown_below h.grown h.grown.size hb, (hb.block _ h.lt).trans h.box, h.lo, h.bw⟩
theorem SlotY.facts (h : SlotY w b r W) : (W.cell? ⟨r, 0, none⟩ = some (.int .i64 0) ∧ W.cell? ⟨r, 1, none⟩ = some (.slice none 0 0)) ∧ ∀ i, W.frozen? ⟨r, i, none⟩ = false :=
  ⟨⟨cell_of_blk h.box 0, cell_of_blk h.box 1⟩, unfrozen_of_blk h.box⟩
theorem SlotY.fin {t : Ty} {p : Option Addr} {c : Nat} (h : SlotY w b r W) (hf : t.form = true) (hN : t.nodes ≤ 3) (hx : TS W (fun z => w.heap.size ≤ z ∧ z ≠ r) t.args (.slice p t.args.length c)) :
    PickT b w (.returned (.agg #[.int .i64 t.kind, .slice p t.args.length c])) ((W.setCell ⟨r, 0, none⟩ (.int .i64 t.kind)).setCell ⟨r, 1, none⟩ (.slice p t.args.length c)) :=
  have hb := setN_below [.int .i64 t.kind, .slice p t.args.length c] w.heap.size W r 0 h.lo
  ⟨t, _, rfl, hf, hN, ⟨_, rfl, (hx.stays (setN_stays [.int .i64 t.kind, .slice p t.args.length c] _ W r 0 (fun hc => hc.2 rfl))).mono (fun z hz _ => hz.1)⟩, h.cur.belowAt h.bw hb, grown_below h.grown (Nat.le_refl _) hb⟩
end

set_option maxRecDepth 100000 in
set_option maxHeartbeats 1000000 in
theorem pick_any (b : Nat) (n : Int) (w : World) (hc : Cur w b) :
    Calls Tryz.prog 186 #[.pointer (some ⟨b, 0, none⟩), .int .i64 n] w (PickT b w) := by
  have hbw := hc.lt
  obtain ⟨wl, hwl, hsz, hbl, qr⟩ := box_new w #[.int .i64 0, .slice none 0 0] 26
  have HS0 : Hid (SlotY w b w.heap.size wl) := Lib.hid ⟨hc.below hbl, grown_below (grownB_refl w _) (Nat.le_refl _) hbl, qr, Nat.le_refl _, hbw⟩
  have HWL := Lib.hid hwl
  have HSZ := Lib.hid hsz
  clear hwl hsz hbl qr hc
  by_cases hn : n < 2
  · go_enter Tryz.func186, Tryz.ntmps186
    go_wp2_with fail
    rw [show w.alloc (.cells #[.int .i64 0, .slice none 0 0] 26) = wl from HWL.out]
    refine (l3Int_any wl).mono ?_
    rintro e w1 ⟨rfl, hb1⟩
    obtain ⟨wi, hwi, hsi, hbi, qi⟩ := box_new w1 #[.int .i64 1, .slice none 0 0] 26
    have HS1 := Lib.hid ((HS0.out.below hb1).below hbi)
    have hbw1 : b < w1.heap.size := by have := hb1.size; have := HSZ.out; omega
    have HG1 : Hid (wi.grownBy wi (some b)) := Lib.hid (grownB_refl wi _)
    have HCI := Lib.hid (fun (W : World) (hW : wi.grownBy W (some b)) => show (W.cell? ⟨w1.heap.size, 0, none⟩ = some (.int .i64 1) ∧ W.cell? ⟨w1.heap.size, 1, none⟩ = some (.slice none 0 0)) from by
      have ci := (hW.block w1.heap.size (by omega) (fun e => by have := Option.some.inj e; omega)).trans qi
      exact ⟨cell_of_blk ci 0, cell_of_blk ci 1⟩)
    have HWI := Lib.hid hwi
    clear hb1 hwi hsi hbi qi
    go_wp2_with fail
    rw [show w1.alloc (.cells #[.int .i64 1, .slice none 0 0] 26) = wi from HWI.out]
    refine (once_any b 2 _ (by decide) (by decide) HS1.out.cur).mono ?_
    rintro e w2 ⟨q2, rfl, hc, hg⟩
    have HS2 := Lib.hid (HS1.out.step hc hg)
    have HG2 : Hid (wi.grownBy w2 (some b)) := Lib.hid (grownBy_trans HG1.out hg)
    obtain ⟨i0, i1⟩ := HCI.out _ HG2.out
    clear hc hg
    cases q2 with
    | true =>
      go_wp2_with fail
      refine (l3Code_any (C := fun z => wl.heap.size ≤ z) (t := .mk 1 []) ⟨_, rfl, .nil _ _⟩ (by decide)).mono ?_
      rintro e w3 ⟨v, rfl, hG, hb⟩
      obtain ⟨s, rfl, hs⟩ := hG.tt
      obtain ⟨p, c, rfl⟩ := hs.form
      have HS3 := Lib.hid (HS2.out.below hb)
      have HT := Lib.hid (hs.mono (C' := fun z => w.heap.size ≤ z ∧ z ≠ w.heap.size) (fun z hz _ => by have := HS2.out.lt; have hz' : w2.heap.size ≤ z := hz; exact ⟨by omega, by omega⟩))
      clear hG hb hs
      obtain ⟨⟨r0, r1⟩, rz⟩ := HS3.out.facts
      go_wp2_with fail
      refine bodyPost_ret (v := .agg #[.int .i64 4, .slice p 1 c]) ?_ rfl ?_
      · rw [results_cell1 rfl]
        go_simp
        all_goals (repeat' apply And.intro) <;> rfl
      · exact HS3.out.fin (t := .mk 4 [.mk 1 []]) rfl (by decide) HT.out
    | false =>
      clear i0 i1
      go_wp2_with fail
      refine (once_any b 3 _ (by decide) (by decide) HS2.out.cur).mono ?_
      rintro e w3 ⟨q3, rfl, hc, hg⟩
      have HS3 := Lib.hid (HS2.out.step hc hg)
      have HG3 : Hid (wi.grownBy w3 (some b)) := Lib.hid (grownBy_trans HG2.out hg)
      obtain ⟨i0, i1⟩ := HCI.out _ HG3.out
      clear hc hg
      cases q3 with
      | true =>
        go_wp2_with fail
        refine (l3Fun_any (C := fun z => wl.heap.size ≤ z) (C' := fun z => wl.heap.size ≤ z) (t := .mk 1 []) (u := .mk 1 []) ⟨_, rfl, .nil _ _⟩ ⟨_, rfl, .nil _ _⟩ (by decide) (by decide)).mono ?_
        rintro e w4 ⟨v, rfl, hG, hb⟩
        obtain ⟨s, rfl, hs⟩ := hG.tt
        obtain ⟨p, c, rfl⟩ := hs.form
        have HS4 := Lib.hid (HS3.out.below hb)
        have HT := Lib.hid (hs.mono (C' := fun z => w.heap.size ≤ z ∧ z ≠ w.heap.size) (fun z hz _ => by have := HS3.out.lt; have hz' : w3.heap.size ≤ z := hz; exact ⟨by omega, by omega⟩))
        clear hG hb hs
        obtain ⟨⟨r0, r1⟩, rz⟩ := HS4.out.facts
        go_wp2_with fail
        refine bodyPost_ret (v := .agg #[.int .i64 3, .slice p 2 c]) ?_ rfl ?_
        · rw [results_cell1 rfl]
          go_simp
          all_goals (repeat' apply And.intro) <;> rfl
        · exact HS4.out.fin (t := .mk 3 [.mk 1 [], .mk 1 []]) rfl (by decide) HT.out
      | false =>
        obtain ⟨⟨r0, r1⟩, rz⟩ := HS3.out.facts
        go_wp2_with fail
        refine bodyPost_ret (v := .agg #[.int .i64 1, .slice none 0 0]) ?_ rfl ?_
        · rw [results_cell1 rfl]
          go_simp
          all_goals (repeat' apply And.intro) <;> rfl
        · exact HS3.out.fin (t := .mk 1 []) rfl (by decide) (.nil _ _)
  · go_enter Tryz.func186, Tryz.ntmps186
    go_wp2_with fail
    rw [show w.alloc (.cells #[.int .i64 0, .slice none 0 0] 26) = wl from HWL.out]
    refine (l3Int_any wl).mono ?_
    rintro e w1 ⟨rfl, hb1⟩
    obtain ⟨wi, hwi, hsi, hbi, qi⟩ := box_new w1 #[.int .i64 1, .slice none 0 0] 26
    have HS1 := Lib.hid ((HS0.out.below hb1).below hbi)
    have hbw1 : b < w1.heap.size := by have := hb1.size; have := HSZ.out; omega
    have HG1 : Hid (wi.grownBy wi (some b)) := Lib.hid (grownB_refl wi _)
    have HCI := Lib.hid (fun (W : World) (hW : wi.grownBy W (some b)) => show (W.cell? ⟨w1.heap.size, 0, none⟩ = some (.int .i64 1) ∧ W.cell? ⟨w1.heap.size, 1, none⟩ = some (.slice none 0 0)) from by
      have ci := (hW.block w1.heap.size (by omega) (fun e => by have := Option.some.inj e; omega)).trans qi
      exact ⟨cell_of_blk ci 0, cell_of_blk ci 1⟩)
    have HWI := Lib.hid hwi
    clear hb1 hwi hsi hbi qi
    go_wp2_with fail
    rw [show w1.alloc (.cells #[.int .i64 1, .slice none 0 0] 26) = wi from HWI.out]
    refine (once_any b 3 _ (by decide) (by decide) HS1.out.cur).mono ?_
    rintro e w2 ⟨q2, rfl, hc, hg⟩
    have HS2 := Lib.hid (HS1.out.step hc hg)
    have HG2 : Hid (wi.grownBy w2 (some b)) := Lib.hid (grownBy_trans HG1.out hg)
    obtain ⟨i0, i1⟩ := HCI.out _ HG2.out
    clear hc hg
    cases q2 with
    | true =>
      go_wp2_with fail
      refine (l3Fun_any (C := fun z => wl.heap.size ≤ z) (C' := fun z => wl.heap.size ≤ z) (t := .mk 1 []) (u := .mk 1 []) ⟨_, rfl, .nil _ _⟩ ⟨_, rfl, .nil _ _⟩ (by decide) (by decide)).mono ?_
      rintro e w3 ⟨v, rfl, hG, hb⟩
      obtain ⟨s, rfl, hs⟩ := hG.tt
      obtain ⟨p, c, rfl⟩ := hs.form
      have HS3 := Lib.hid (HS2.out.below hb)
      have HT := Lib.hid (hs.mono (C' := fun z => w.heap.size ≤ z ∧ z ≠ w.heap.size) (fun z hz _ => by have := HS2.out.lt; have hz' : w2.heap.size ≤ z := hz; exact ⟨by omega, by omega⟩))
      clear hG hb hs
      obtain ⟨⟨r0, r1⟩, rz⟩ := HS3.out.facts
      go_wp2_with fail
      refine bodyPost_ret (v := .agg #[.int .i64 3, .slice p 2 c]) ?_ rfl ?_
      · rw [results_cell1 rfl]
        go_simp
        all_goals (repeat' apply And.intro) <;> rfl
      · exact HS3.out.fin (t := .mk 3 [.mk 1 [], .mk 1 []]) rfl (by decide) HT.out
    | false =>
      obtain ⟨⟨r0, r1⟩, rz⟩ := HS2.out.facts
      go_wp2_with fail
      refine bodyPost_ret (v := .agg #[.int .i64 1, .slice none 0 0]) ?_ rfl ?_
      · rw [results_cell1 rfl]
        go_simp
        all_goals (repeat' apply And.intro) <;> rfl
      · exact HS2.out.fin (t := .mk 1 []) rfl (by decide) (.nil _ _)
end Go.Proofs.YtfeijijeohfpgaaGreatDoor
namespace Go.Proofs.YtfeijijeohfpgaaGreatDoor
open Go Go.RowKit

def MostRet (w : World) (e : Ending) (w' : World) : Prop := ∃ r : Int, e = .returned (.int .i64 r) ∧ Below w.heap.size w w'
set_option maxRecDepth 100000 in
set_option maxHeartbeats 1000000 in
theorem most_any {C : Nat → Prop} : ∀ (m : Nat) (t : Ty) (v : Value) (w : World), t.nodes ≤ m → t.form = true → TT w C t v →
    Calls Tryz.prog 188 #[v] w (MostRet w) := by
  intro m
  induction m with
  | zero => intro t v w hm; rw [t.nodes_eq] at hm; omega
  | succ m ih =>
    intro t v w hm hf hT
    obtain ⟨s, rfl, hs⟩ := hT
    obtain ⟨q, d, rfl⟩ := hs.form
    have hbl := al_below w (.cells #[.int .i64 t.kind, .slice q t.args.length d] 26)
    have HBL := Lib.hid hbl
    have HIH := Lib.hid ih
    clear ih
    by_cases hk : t.kind = 4
    · rcases form_cases hf with rfl | rfl | ⟨x, y, rfl, hx, hy⟩ | ⟨x, rfl, hx⟩
      · cases hk
      · cases hk
      · cases hk
      · obtain ⟨bo, oo, p0, c0, rfl, hc0, hT0⟩ := hs.at 0 x rfl
        have k0 := hc0 (w.alloc (.cells #[.int .i64 4, .slice (some ⟨bo, oo, none⟩) 1 d] 26)) (.of_below hbl)
        have k1 : (w.alloc (.cells #[.int .i64 4, .slice (some ⟨bo, oo, none⟩) 1 d] 26)).cell? ⟨bo, oo, none⟩ = some (.int .i64 x.kind) := k0.1
        have k2 : (w.alloc (.cells #[.int .i64 4, .slice (some ⟨bo, oo, none⟩) 1 d] 26)).cell? ⟨bo, oo + 1, none⟩ = some (.slice p0 x.args.length c0) := k0.2
        have HT0 := Lib.hid (hT0.stays (.of_below hbl))
        clear hc0 hT0 hs k0
        go_enter Tryz.func188, Tryz.ntmps188
        go_wp2_with fail
        refine (HIH.out x _ _ (by simp only [Ty.nodes, nodesS] at hm; omega) hx ⟨_, rfl, HT0.out⟩).mono ?_
        rintro e w1 ⟨r, rfl, hb1⟩
        have HB1 := Lib.hid (HBL.out.trans (hb1.mono HBL.out.size))
        clear hb1
        go_wp2_with fail
        go_ret
        exact ⟨_, rfl, HB1.out⟩
    · clear hs
      go_enter Tryz.func188, Tryz.ntmps188
      go_wp2_with fail
      go_ret
      exact ⟨_, rfl, HBL.out⟩
end Go.Proofs.YtfeijijeohfpgaaGreatDoor
namespace Go.Proofs.YtfeijijeohfpgaaGreatDoor
open Go Go.RowKit
def Rd (w : World) (R : Nat) (s : ByteArray) (i : Nat) (bad : Bool) : Prop := w.heap[R]? = some (.cells #[.string s, .int .i64 i, .bool bad] 207 (0, 0))
theorem Rd.cells {w : World} {R : Nat} {s : ByteArray} {i : Nat} {bad : Bool} (h : Rd w R s i bad) :
    w.cell? ⟨R, 0, none⟩ = some (.string s) ∧ w.cell? ⟨R, 1, none⟩ = some (.int .i64 i) ∧ w.cell? ⟨R, 2, none⟩ = some (.bool bad) ∧ w.frozen? ⟨R, 1, none⟩ = false ∧ w.frozen? ⟨R, 2, none⟩ = false :=
  ⟨by rw [cell_of_row w R 0 _ _ _ h]; rfl, by rw [cell_of_row w R 1 _ _ _ h]; rfl, by rw [cell_of_row w R 2 _ _ _ h]; rfl, frozen_of_row w R 1 _ _ h, frozen_of_row w R 2 _ _ h⟩
theorem Rd.lt {w : World} {R : Nat} {s : ByteArray} {i : Nat} {bad : Bool} (h : Rd w R s i bad) : R < w.heap.size := (Array.getElem?_eq_some_iff.1 h).1
theorem Rd.drew {w : World} {R : Nat} {s : ByteArray} {i : Nat} {bad : Bool} (h : Rd w R s i bad) (n : Nat) : Rd (w.drewN n) R s i bad := h
theorem grown_refl (w : World) (r : Option Nat) : w.grownBy w r := ⟨rfl, rfl, rfl, Nat.le_refl _, fun _ _ _ => rfl⟩
theorem Rd.at {w : World} {R : Nat} {s : ByteArray} {i : Nat} {bad : Bool} (h : Rd w R s i bad) (j : Nat) : Rd (w.setCell ⟨R, 1, none⟩ (.int .i64 j)) R s j bad ∧ w.grownBy (w.setCell ⟨R, 1, none⟩ (.int .i64 j)) (some R) :=
  ⟨heap_setCell_same w R 1 _ _ _ h, ⟨rfl, rfl, rfl, by simp, fun k _ hk => heap_setCell_other w ⟨R, 1, none⟩ k _ (fun e => hk (by simp [e]))⟩⟩
theorem Rd.set {w : World} {R : Nat} {s : ByteArray} {i : Nat} {bad : Bool} (h : Rd w R s i bad) (b : Bool) : Rd (w.setCell ⟨R, 2, none⟩ (.bool b)) R s i b ∧ w.grownBy (w.setCell ⟨R, 2, none⟩ (.bool b)) (some R) :=
  ⟨heap_setCell_same w R 2 _ _ _ h, ⟨rfl, rfl, rfl, by simp, fun k _ hk => heap_setCell_other w ⟨R, 2, none⟩ k _ (fun e => hk (by simp [e]))⟩⟩

theorem one_byte {s : ByteArray} {i : Nat} (h : i < s.size) : (s.extract i (i + 1)).toList = [s[i]] := by
  have h1 : i < s.data.toList.length := by simpa using h
  rw [ByteArray.toList_eq, ByteArray.data_extract, Array.toList_extract, List.extract_eq_take_drop]
  rw [show i + 1 - i = 1 by omega, List.drop_eq_getElem_cons h1, List.take_succ_cons, List.take_zero, Array.getElem_toList]
  rfl
theorem at_byte {s : ByteArray} {i : Nat} (h : i < s.size) : s.data.toList[i]? = some s[i] := by
  rw [List.getElem?_eq_getElem (by simpa using h), Array.getElem_toList]; rfl
theorem at_none {s : ByteArray} {i : Nat} (h : ¬ i < s.size) : s.data.toList[i]? = none := List.getElem?_eq_none (by simpa using h)
def TakeRet (R : Nat) (s : ByteArray) (i : Nat) (bad : Bool) (c : UInt8) (w : World) (e : Ending) (w' : World) : Prop :=
  ∃ b : Bool, (b = true ↔ bad = false ∧ s.data.toList[i]? = some c) ∧ e = .returned (.bool b) ∧ Rd w' R s (if b then i + 1 else i) bad ∧ w.grownBy w' (some R)
theorem take_yes {R : Nat} {s : ByteArray} {i : Nat} {c : UInt8} {w w1 : World} (h : Rd w1 R s i false) (hc : s.data.toList[i]? = some c) (hg : w.grownBy w1 (some R)) :
    TakeRet R s i false c w (.returned (.bool true)) (w1.setCell ⟨R, 1, none⟩ (.int .i64 ((i : Int) + 1))) := by
  have := h.at (i + 1)
  rw [show ((i : Int) + 1) = ((i + 1 : Nat) : Int) by omega]
  exact ⟨true, ⟨fun _ => ⟨rfl, hc⟩, fun _ => rfl⟩, rfl, this.1, grownBy_trans hg this.2⟩
theorem take_no {R : Nat} {s : ByteArray} {i : Nat} {bad : Bool} {c : UInt8} {w w1 : World} (h : Rd w1 R s i bad) (hc : ¬ (bad = false ∧ s.data.toList[i]? = some c)) (hg : w.grownBy w1 (some R)) :
    TakeRet R s i bad c w (.returned (.bool false)) w1 :=
  ⟨false, ⟨fun h => (by cases h), fun h => absurd h hc⟩, rfl, h, hg⟩

set_option maxRecDepth 100000 in
set_option maxHeartbeats 1000000 in
theorem take_bad (R : Nat) (s : ByteArray) (i : Nat) (c : UInt8) (w : World) (hr : Rd w R s i true) :
    Calls Tryz.prog 207 #[.pointer (some ⟨R, 0, none⟩), .string ⟨#[c]⟩] w (TakeRet R s i true c w) := by
  obtain ⟨c0, c1, c2, z1, z2⟩ := hr.cells
  have HR := Lib.hid hr
  clear hr
  go_enter Tryz.func207, Tryz.ntmps207
  go_wp2_with fail
  go_quiet (fail)
  go_wp2_with fail
  go_ret
  exact take_no (HR.out.drew _) (by simp) (grownBy_drewN (grown_refl _ _) _)

set_option maxRecDepth 100000 in
set_option maxHeartbeats 1000000 in
theorem take_end (R : Nat) (s : ByteArray) (i : Nat) (c : UInt8) (w : World) (hs : s.size ≤ 1073741824) (hi : i ≤ s.size) (hlt : ¬ i < s.size) (hr : Rd w R s i false) :
    Calls Tryz.prog 207 #[.pointer (some ⟨R, 0, none⟩), .string ⟨#[c]⟩] w (TakeRet R s i false c w) := by
  obtain ⟨c0, c1, c2, z1, z2⟩ := hr.cells
  have HR := Lib.hid hr
  clear hr
  have hw : IntKind.i64.wrap ((i : Int) + 1) = (i : Int) + 1 := IntWalk.i64_in _ (by omega)
  have h1 : decide ((s.size : Int) < (i : Int) + 1) = true := decide_eq_true (by omega)
  go_enter Tryz.func207, Tryz.ntmps207
  go_wp2_with fail
  go_quiet (fail)
  go_wp2_with fail
  go_ret
  exact take_no (HR.out.drew _) (by rw [at_none hlt]; simp) (grownBy_drewN (grown_refl _ _) _)

set_option maxRecDepth 100000 in
set_option maxHeartbeats 1000000 in
theorem take_at (R : Nat) (s : ByteArray) (i : Nat) (c : UInt8) (w : World) (hs : s.size ≤ 1073741824) (hlt : i < s.size) (hr : Rd w R s i false) :
    Calls Tryz.prog 207 #[.pointer (some ⟨R, 0, none⟩), .string ⟨#[c]⟩] w (TakeRet R s i false c w) := by
  obtain ⟨c0, c1, c2, z1, z2⟩ := hr.cells
  have HR := Lib.hid hr
  clear hr
  have h0 : (0 : Int) ≤ (i : Int) := by omega
  have hw : IntKind.i64.wrap ((i : Int) + 1) = (i : Int) + 1 := IntWalk.i64_in _ (by omega)
  have h1 : decide ((s.size : Int) < (i : Int) + 1) = false := decide_eq_false (by omega)
  have h2 : (i : Int) + 1 ≤ (s.size : Int) := by omega
  have HX := Lib.hid (one_byte hlt)
  by_cases hc : s[i] = c
  · have he : ((s.extract i (i + 1)).toList == [c]) = true := by rw [HX.out, hc]; simp
    go_enter Tryz.func207, Tryz.ntmps207
    go_wp2_with fail
    go_quiet (fail)
    go_wp2_with fail
    go_ret
    exact take_yes (HR.out.drew _) (by rw [at_byte hlt, hc]) (grownBy_drewN (grown_refl _ _) _)
  · have he : ((s.extract i (i + 1)).toList == [c]) = false := by rw [HX.out]; simpa using hc
    go_enter Tryz.func207, Tryz.ntmps207
    go_wp2_with fail
    go_quiet (fail)
    go_wp2_with fail
    go_ret
    exact take_no (HR.out.drew _) (by rw [at_byte hlt]; simpa using hc) (grownBy_drewN (grown_refl _ _) _)
theorem take_any (R : Nat) (s : ByteArray) (i : Nat) (bad : Bool) (c : UInt8) (w : World) (hs : s.size ≤ 1073741824) (hi : i ≤ s.size) (hr : Rd w R s i bad) :
    Calls Tryz.prog 207 #[.pointer (some ⟨R, 0, none⟩), .string ⟨#[c]⟩] w (TakeRet R s i bad c w) := by
  cases bad
  · by_cases hlt : i < s.size
    · exact take_at R s i c w hs hlt hr
    · exact take_end R s i c w hs hi hlt hr
  · exact take_bad R s i c w hr
end Go.Proofs.YtfeijijeohfpgaaGreatDoor
namespace Go.Proofs.YtfeijijeohfpgaaGreatDoor
open Go Go.RowKit

theorem results_cs {fn : Func} {p q : Tmp} {ty : TypeId} (h : fn.results = #[.cell p ty, .tmp q]) (tmps : Array Value) (P : Program) (w : World) :
    (results fn tmps).run P w = ((asAddr (tmps.getD p undef)).run P w).andThen fun a w₁ => ((loadVar ty a).run P w₁).andThen fun v w₂ => .ok (.tuple #[v, tmps.getD q undef]) w₂ := by
  simp only [results, h]
  simp [Sem.run_bind, Result.andThen]
end Go.Proofs.YtfeijijeohfpgaaGreatDoor
namespace Go.Proofs.YtfeijijeohfpgaaGreatDoor
open Go Go.RowKit

abbrev bt (s : ByteArray) (i : Nat) : Option UInt8 := s.data.toList[i]?
theorem take_or (R : Nat) (s : ByteArray) (i : Nat) (c : UInt8) (w : World) (hs : s.size ≤ 1073741824) (hi : i ≤ s.size) (hr : Rd w R s i false) :
    Calls Tryz.prog 207 #[.pointer (some ⟨R, 0, none⟩), .string ⟨#[c]⟩] w fun e w' =>
      (bt s i = some c ∧ e = .returned (.bool true) ∧ Rd w' R s (i + 1) false ∧ w.grownBy w' (some R)) ∨ (¬ bt s i = some c ∧ e = .returned (.bool false) ∧ Rd w' R s i false ∧ w.grownBy w' (some R)) := by
  refine (take_any R s i false c w hs hi hr).mono ?_
  rintro e w' ⟨b, hb, rfl, h1, h2⟩
  cases b
  · exact Or.inr ⟨fun h => (by have := hb.2 ⟨rfl, h⟩; cases this), rfl, h1, h2⟩
  · exact Or.inl ⟨(hb.1 rfl).2, rfl, h1, h2⟩

set_option maxRecDepth 100000 in
set_option maxHeartbeats 1000000 in
theorem must_bad (R : Nat) (s : ByteArray) (i : Nat) (c : UInt8) (w : World) (hr : Rd w R s i true) :
    Calls Tryz.prog 208 #[.pointer (some ⟨R, 0, none⟩), .string ⟨#[c]⟩] w fun e w' => e = .returned (.tuple #[]) ∧ Rd w' R s i true ∧ w.grownBy w' (some R) := by
  obtain ⟨c0, c1, c2, z1, z2⟩ := hr.cells
  have HR := Lib.hid hr
  clear hr
  go_enter Tryz.func208, Tryz.ntmps208
  go_wp2_with fail
  go_end0
  exact ⟨rfl, HR.out.set true⟩

set_option maxRecDepth 100000 in
set_option maxHeartbeats 1000000 in
theorem must_or (R : Nat) (s : ByteArray) (i : Nat) (c : UInt8) (w : World) (hs : s.size ≤ 1073741824) (hi : i ≤ s.size) (hr : Rd w R s i false) :
    Calls Tryz.prog 208 #[.pointer (some ⟨R, 0, none⟩), .string ⟨#[c]⟩] w fun e w' =>
      (bt s i = some c ∧ e = .returned (.tuple #[]) ∧ Rd w' R s (i + 1) false ∧ w.grownBy w' (some R)) ∨ (¬ bt s i = some c ∧ e = .returned (.tuple #[]) ∧ Rd w' R s i true ∧ w.grownBy w' (some R)) := by
  obtain ⟨c0, c1, c2, z1, z2⟩ := hr.cells
  have HC := Lib.hid (take_or R s i c w hs hi hr)
  clear hr
  go_enter Tryz.func208, Tryz.ntmps208
  go_wp2_with fail
  refine HC.out.mono ?_
  rintro e w1 (⟨h, rfl, hr1, hg1⟩ | ⟨h, rfl, hr1, hg1⟩)
  all_goals
    clear c0 c1 c2 z1 z2
    obtain ⟨c0, c1, c2, z1, z2⟩ := hr1.cells
    have HR := Lib.hid hr1
    have HG := Lib.hid hg1
    have HH := Lib.hid h
    clear hr1 hg1 h
    go_wp2_with fail
    go_end0
    first
    | exact Or.inl ⟨HH.out, rfl, (HR.out.set false).1, grownBy_trans HG.out (HR.out.set false).2⟩
    | exact Or.inr ⟨HH.out, rfl, (HR.out.set true).1, grownBy_trans HG.out (HR.out.set true).2⟩

set_option maxRecDepth 100000 in
set_option maxHeartbeats 1000000 in
theorem l3Bool_any (w : World) : Calls Tryz.prog 89 #[] w fun e w' => e = .returned (.agg #[.int .i64 2, .slice none 0 0]) ∧ Below w.heap.size w w' := by
  have HB := Lib.hid ((Below.refl _ w).alloc (Nat.le_refl _) (.cells #[.int .i64 2, .slice none 0 0] 26))
  go_enter Tryz.func89, Tryz.ntmps89
  go_wp2_with fail
  refine bodyPost_ret (v := .agg #[.int .i64 2, .slice none 0 0]) ?_ rfl ?_
  · rw [results_cell1 rfl]
    go_simp
  · exact ⟨rfl, HB.out⟩
end Go.Proofs.YtfeijijeohfpgaaGreatDoor
namespace Go.Proofs.YtfeijijeohfpgaaGreatDoor
open Go Go.RowKit
structure TP (w : World) (R : Nat) (s : ByteArray) (i : Nat) (bad : Bool) (W : World) : Prop where
  rd : Rd W R s i bad
  grown : w.grownBy W (some R)
  r : W.heap[w.heap.size]? = some (.cells #[.int .i64 0, .slice none 0 0] 26 (0, 0))
  hR : R < w.heap.size
theorem TP.lt {w W : World} {R i : Nat} {s : ByteArray} {bad : Bool} (h : TP w R s i bad W) : w.heap.size < W.heap.size := (Array.getElem?_eq_some_iff.1 h.r).1
theorem TP.step {w W W' : World} {R i j : Nat} {s : ByteArray} {bad bad' : Bool} (h : TP w R s i bad W) (hr : Rd W' R s j bad') (hg : W.grownBy W' (some R)) : TP w R s j bad' W' :=
  ⟨hr, grownBy_trans h.grown hg, (hg.block _ h.lt (fun e => by have := Option.some.inj e; have := h.hR; omega)).trans h.r, h.hR⟩
theorem TP.below {w W W' : World} {R i : Nat} {s : ByteArray} {bad : Bool} (h : TP w R s i bad W) (hb : Below W.heap.size W W') : TP w R s i bad W' :=
  ⟨(hb.block _ h.rd.lt).trans h.rd, ⟨hb.os.trans h.grown.os, hb.tape.trans h.grown.tape, hb.output.trans h.grown.output, Nat.le_trans h.grown.size hb.size, fun k hk hne => (hb.block k (Nat.lt_of_lt_of_le hk h.grown.size)).trans (h.grown.block k hk hne)⟩, (hb.block _ h.lt).trans h.r, h.hR⟩
theorem TP.start {w : World} {R i : Nat} {s : ByteArray} (hr : Rd w R s i false) : TP w R s i false (w.alloc (.cells #[.int .i64 0, .slice none 0 0] 26)) :=
  ⟨(Below.heap_alloc _ _ _ hr.lt).trans hr, World.grownBy_alloc _ _ _, blk_new w _, hr.lt⟩
theorem TP.set {w W : World} {R i : Nat} {s : ByteArray} {bad : Bool} (h : TP w R s i bad W) (b : Bool) : TP w R s i b (W.setCell ⟨R, 2, none⟩ (.bool b)) := h.step (h.rd.set b).1 (h.rd.set b).2
theorem stays_grown {w w' : World} {R : Nat} {C : Nat → Prop} (hg : w.grownBy w' (some R)) (hC : ∀ z, C z → z ≠ R) : Stays C w w' :=
  ⟨hg.size, fun b hb hl => hg.block b hl (fun e => hC b hb (Option.some.inj e))⟩
def TypRet (R : Nat) (s : ByteArray) (k i : Nat) (w : World) (e : Ending) (w' : World) : Prop :=
  ∃ v t, e = .returned v ∧ TT w' (fun z => w.heap.size ≤ z) t v ∧ w.grownBy w' (some R) ∧
    ((∃ j, pty s.data.toList k i = some (t, j) ∧ Rd w' R s j false) ∨ (pty s.data.toList k i = none ∧ ∃ j, j ≤ s.size ∧ Rd w' R s j true))
theorem typ_fin {w W : World} {R i j k : Nat} {s : ByteArray} {bad : Bool} {t : Ty} {p : Value} (h : TP w R s j bad W) (hT : TS W (fun z => w.heap.size + 1 ≤ z) t.args p)
    (ho : (bad = false ∧ pty s.data.toList k i = some (t, j)) ∨ (bad = true ∧ pty s.data.toList k i = none ∧ j ≤ s.size)) :
    TypRet R s k i w (.returned (.agg #[.int .i64 t.kind, p])) ((W.setCell ⟨w.heap.size, 0, none⟩ (.int .i64 t.kind)).setCell ⟨w.heap.size, 1, none⟩ p) := by
  have hR := h.hR
  have hst : ∀ F : Nat → Prop, ¬ F w.heap.size → Stays F W ((W.setCell ⟨w.heap.size, 0, none⟩ (.int .i64 t.kind)).setCell ⟨w.heap.size, 1, none⟩ p) := fun F hF => (setCell_stays _ _ _ _ F hF).trans (setCell_stays _ _ _ _ F hF)
  have hrd : Rd ((W.setCell ⟨w.heap.size, 0, none⟩ (.int .i64 t.kind)).setCell ⟨w.heap.size, 1, none⟩ p) R s j bad := ((hst (fun z => z = R) (by omega)).2 R rfl h.rd.lt).trans h.rd
  have hbl : Below w.heap.size W ((W.setCell ⟨w.heap.size, 0, none⟩ (.int .i64 t.kind)).setCell ⟨w.heap.size, 1, none⟩ p) := ((Below.refl _ W).setCell (p := ⟨w.heap.size, 0, none⟩) (Nat.le_refl _) _).setCell (p := ⟨w.heap.size, 1, none⟩) (Nat.le_refl _) _
  refine ⟨_, t, rfl, ⟨p, rfl, (hT.stays (hst _ (by omega))).mono (fun z hz _ => by omega)⟩, ⟨hbl.os.trans h.grown.os, hbl.tape.trans h.grown.tape, hbl.output.trans h.grown.output, Nat.le_trans h.grown.size hbl.size, fun z hz hne => (hbl.block z hz).trans (h.grown.block z hz hne)⟩, ?_⟩
  rcases ho with ⟨rfl, h1⟩ | ⟨rfl, h1, h2⟩
  · exact Or.inl ⟨j, h1, hrd⟩
  · exact Or.inr ⟨h1, j, h2, hrd⟩
theorem TP.facts {w W : World} {R i : Nat} {s : ByteArray} {bad : Bool} (h : TP w R s i bad W) : W.cell? ⟨w.heap.size, 0, none⟩ = some (.int .i64 0) ∧ W.cell? ⟨w.heap.size, 1, none⟩ = some (.slice none 0 0) ∧ ∀ j, W.frozen? ⟨w.heap.size, j, none⟩ = false :=
  ⟨cell_of_blk h.r 0, cell_of_blk h.r 1, unfrozen_of_blk h.r⟩

theorem pty_1 {s : List UInt8} {k i : Nat} (h : s[i]? = some 73) : pty s (k + 1) i = some (.mk 1 [], i + 1) := by rw [pty, if_pos h]
theorem pty_2 {s : List UInt8} {k i : Nat} (h : s[i]? = some 66) : pty s (k + 1) i = some (.mk 2 [], i + 1) := by rw [pty, if_neg (by rw [h]; decide), if_pos h]
theorem pty_3 {s : List UInt8} {k i : Nat} (h : s[i]? = some 40) : pty s (k + 1) i = (ptys (pty s k) s [62, 41] (i + 1)).map fun r => (.mk 3 r.1, r.2) := by
  rw [pty, if_neg (by rw [h]; decide), if_neg (by rw [h]; decide), if_pos h]
theorem pty_4 {s : List UInt8} {k i : Nat} (h : s[i]? = some 60) : pty s (k + 1) i = (ptys (pty s k) s [62] (i + 1)).map fun r => (.mk 4 r.1, r.2) := by
  rw [pty, if_neg (by rw [h]; decide), if_neg (by rw [h]; decide), if_neg (by rw [h]; decide), if_pos h]
theorem pty_0 {s : List UInt8} {k i : Nat} (h1 : ¬ s[i]? = some 73) (h2 : ¬ s[i]? = some 66) (h3 : ¬ s[i]? = some 40) (h4 : ¬ s[i]? = some 60) : pty s (k + 1) i = none := by
  rw [pty, if_neg h1, if_neg h2, if_neg h3, if_neg h4]
theorem ptys0 {f : Nat → Option (Ty × Nat)} {s : List UInt8} {i : Nat} : ptys f s [] i = some ([], i) := rfl
theorem ptys1_none {f : Nat → Option (Ty × Nat)} {s es : List UInt8} {e : UInt8} {i : Nat} (h : f i = none) : ptys f s (e :: es) i = none := by simp only [ptys, h]
theorem ptys1_miss {f : Nat → Option (Ty × Nat)} {s es : List UInt8} {e : UInt8} {i j : Nat} {t : Ty} (h : f i = some (t, j)) (hc : ¬ s[j]? = some e) : ptys f s (e :: es) i = none := by simp only [ptys, h, if_neg hc]
theorem ptys1_hit {f : Nat → Option (Ty × Nat)} {s es : List UInt8} {e : UInt8} {i j : Nat} {t : Ty} (h : f i = some (t, j)) (hc : s[j]? = some e) : ptys f s (e :: es) i = (ptys f s es (j + 1)).map fun r => (t :: r.1, r.2) := by simp only [ptys, h, if_pos hc]
theorem lit1 {w4 : World} {base : Nat} {t4 : Ty} {s4 : Value} (hs : TS w4 (fun z => base ≤ z) t4.args s4) (hb : base ≤ w4.heap.size) :
    Below w4.heap.size w4 ((w4.alloc (.cells #[.int .i64 t4.kind, s4] 26)).alloc (.cells #[.int .i64 4, .slice (some ⟨w4.heap.size, 0, none⟩) 1 1] 26)) ∧
    Bx ((w4.alloc (.cells #[.int .i64 t4.kind, s4] 26)).alloc (.cells #[.int .i64 4, .slice (some ⟨w4.heap.size, 0, none⟩) 1 1] 26)) (w4.heap.size + 1) 4 (.slice (some ⟨w4.heap.size, 0, none⟩) 1 1) ∧
    TS ((w4.alloc (.cells #[.int .i64 t4.kind, s4] 26)).alloc (.cells #[.int .i64 4, .slice (some ⟨w4.heap.size, 0, none⟩) 1 1] 26)) (fun z => base ≤ z) [t4] (.slice (some ⟨w4.heap.size, 0, none⟩) 1 1) := by
  have hG : Grow _ base (.slice (some ⟨w4.heap.size, 0, none⟩) 1 1) [(t4, s4)] := Grow.lit (W := w4) (cs := #[.int .i64 t4.kind, s4]) (n := 1) rfl rfl hb (by simp [maxLen]) (fun e he => by
    rw [List.mem_singleton] at he
    subst he
    exact hs)
  have hx := Bx.new (w4.alloc (.cells #[.int .i64 t4.kind, s4] 26)) 4 (.slice (some ⟨w4.heap.size, 0, none⟩) 1 1) 26
  rw [World.size_alloc] at hx
  exact ⟨(alloc_below _ _).trans ((alloc_below _ _).mono (by simp)), hx, hG.all.keep (alloc_below _ _)⟩
theorem lit2 {W : World} {base : Nat} {t u : Ty} {s1 s2 : Value} (h1 : TS W (fun z => base ≤ z) t.args s1) (h2 : TS W (fun z => base ≤ z) u.args s2) (hb : base ≤ W.heap.size) :
    TS (W.alloc (.cells #[.int .i64 t.kind, s1, .int .i64 u.kind, s2] 26)) (fun z => base ≤ z) [t, u] (.slice (some ⟨W.heap.size, 0, none⟩) 2 2) := by
  have hG : Grow _ base (.slice (some ⟨W.heap.size, 0, none⟩) 2 2) [(t, s1), (u, s2)] := Grow.lit (W := W) (cs := #[.int .i64 t.kind, s1, .int .i64 u.kind, s2]) (n := 2) rfl rfl hb (by simp [maxLen]) (fun e he => by
    rcases List.mem_cons.1 he with rfl | he
    · exact h1
    · rw [List.mem_singleton] at he
      subst he
      exact h2)
  exact hG.all
theorem Bx.grown {w w' : World} {b R : Nat} {k : Int} {s : Value} (h : Bx w b k s) (hg : w.grownBy w' (some R)) (hne : R ≠ b) : Bx w' b k s :=
  ⟨hg.cell h.1 (fun e => hne (Option.some.inj e).symm), hg.cell h.2 (fun e => hne (Option.some.inj e).symm)⟩
theorem bt_lt {s : ByteArray} {i : Nat} {c : UInt8} (h : bt s i = some c) : i + 1 ≤ s.size := by
  have := (List.getElem?_eq_some_iff.1 h).1
  have h : i < s.size := by simpa using this
  omega

set_option maxRecDepth 100000 in
set_option maxHeartbeats 1000000 in
theorem typ_deep (D : Int) (hD : 8 < D) (R : Nat) (s : ByteArray) (i : Nat) (w : World) (hi : i ≤ s.size) (hr : Rd w R s i false) :
    Calls Tryz.prog 232 #[.pointer (some ⟨R, 0, none⟩), .int .i64 D] w (TypRet R s 0 i w) := by
  have hT := TP.start hr
  obtain ⟨c0, c1, c2, z1, z2⟩ := hT.rd.cells
  have HT1 := Lib.hid (hT.set true)
  obtain ⟨d0, d1, d2, y1, y2⟩ := HT1.out.rd.cells
  obtain ⟨g0, g1, gz⟩ := HT1.out.facts
  clear hr hT
  go_enter Tryz.func232, Tryz.ntmps232
  go_wp2_with fail
  refine bodyPost_ret (v := .agg #[.int .i64 0, .slice none 0 0]) ?_ rfl ?_
  · rw [results_cell1 rfl]
    go_simp
  · exact typ_fin (t := .mk 0 []) HT1.out (.nil _ _) (Or.inr ⟨rfl, rfl, hi⟩)

set_option maxRecDepth 100000 in
set_option maxHeartbeats 2000000 in
theorem typ_step (k : Nat) (D : Int) (d8 : D ≤ 8) (d1 : 1 ≤ D) (R : Nat) (s : ByteArray) (hs : s.size ≤ 1073741824)
    (IH : ∀ (i : Nat) (W : World), i ≤ s.size → Rd W R s i false → Calls Tryz.prog 232 #[.pointer (some ⟨R, 0, none⟩), .int .i64 (D + 1)] W (TypRet R s k i W))
    (i : Nat) (w : World) (hi : i ≤ s.size) (hr : Rd w R s i false) :
    Calls Tryz.prog 232 #[.pointer (some ⟨R, 0, none⟩), .int .i64 D] w (TypRet R s (k + 1) i w) := by
  have hT := TP.start hr
  obtain ⟨c0, c1, c2, z1, z2⟩ := hT.rd.cells
  have HT0 := Lib.hid (hT.set false)
  have HIH := Lib.hid IH
  obtain ⟨d0, d1', d2, y1, y2⟩ := HT0.out.rd.cells
  have dd : decide (8 < D) = false := decide_eq_false (by omega)
  clear hr hT IH d0 d1' y1 y2
  go_enter Tryz.func232, Tryz.ntmps232
  go_wp2_with fail
  refine (take_or R s i 73 _ hs hi HT0.out.rd).mono ?_
  rintro e w1 (⟨h1, rfl, hr1, hg1⟩ | ⟨h1, rfl, hr1, hg1⟩)
  · have HT1 := Lib.hid (HT0.out.step hr1 hg1)
    have H1 := Lib.hid h1
    clear hr1 hg1 h1 c0 c1 c2 z1 z2 d2
    go_wp2_with fail
    refine (l3Int_any w1).mono ?_
    rintro e w2 ⟨rfl, hb2⟩
    have hT2 := HT1.out.below hb2
    obtain ⟨g0, g1, gz⟩ := hT2.facts
    have HT2 := Lib.hid hT2
    clear hb2 hT2
    go_wp2_with fail
    refine bodyPost_ret (v := .agg #[.int .i64 1, .slice none 0 0]) ?_ rfl ?_
    · rw [results_cell1 rfl]
      go_simp
    · exact typ_fin (t := .mk 1 []) HT2.out (.nil _ _) (Or.inl ⟨rfl, pty_1 H1.out⟩)
  have HT1 := Lib.hid (HT0.out.step hr1 hg1)
  have H1 := Lib.hid h1
  clear hr1 hg1 h1 c0 c1 c2 z1 z2 d2
  go_wp2_with fail
  refine (take_or R s i 66 _ hs hi HT1.out.rd).mono ?_
  rintro e w2 (⟨h2, rfl, hr2, hg2⟩ | ⟨h2, rfl, hr2, hg2⟩)
  · have HT2 := Lib.hid (HT1.out.step hr2 hg2)
    have H2 := Lib.hid h2
    clear hr2 hg2 h2
    go_wp2_with fail
    refine (l3Bool_any w2).mono ?_
    rintro e w3 ⟨rfl, hb3⟩
    have hT3 := HT2.out.below hb3
    obtain ⟨g0, g1, gz⟩ := hT3.facts
    have HT3 := Lib.hid hT3
    clear hb3 hT3
    go_wp2_with fail
    refine bodyPost_ret (v := .agg #[.int .i64 2, .slice none 0 0]) ?_ rfl ?_
    · rw [results_cell1 rfl]
      go_simp
    · exact typ_fin (t := .mk 2 []) HT3.out (.nil _ _) (Or.inl ⟨rfl, pty_2 H2.out⟩)
  have HT2 := Lib.hid (HT1.out.step hr2 hg2)
  have H2 := Lib.hid h2
  clear hr2 hg2 h2
  go_wp2_with fail
  refine (take_or R s i 60 _ hs hi HT2.out.rd).mono ?_
  rintro e w3 (⟨h3, rfl, hr3, hg3⟩ | ⟨h3, rfl, hr3, hg3⟩)
  · have HT3 := Lib.hid (HT2.out.step hr3 hg3)
    have H3 := Lib.hid h3
    have hi3 := bt_lt h3
    clear hr3 hg3 h3
    go_wp2_with fail
    refine (HIH.out (i + 1) w3 hi3 HT3.out.rd).mono ?_
    rintro e w4 ⟨v4, t4, rfl, ⟨s4, rfl, hs4⟩, hg4, ho4⟩
    obtain ⟨p4, c4, rfl⟩ := hs4.form
    have hlt := HT3.out.lt
    have hsz := hg4.size
    have hRl := HT3.out.hR
    obtain ⟨lb, lx, lts⟩ := lit1 (base := w.heap.size + 1) (hs4.mono (fun z hz _ => by show _ ≤ z; have : w3.heap.size ≤ z := hz; omega)) (by omega)
    have HLX := Lib.hid lx
    have HLT := Lib.hid lts
    have hne : R ≠ w4.heap.size + 1 := by omega
    rcases ho4 with ⟨j, hp, hrd⟩ | ⟨hp, j, hj, hrd⟩
    · have HT5 := Lib.hid ((HT3.out.step hrd hg4).below lb)
      have hj := (pty_good _ _ _ _ _ hp).le
      have HP := Lib.hid hp
      have hj' : j ≤ s.size := by simpa using hj
      clear hp hrd hg4 hs4 lb lx lts hj hsz hlt
      go_wp2_with fail
      refine (must_or R s j 62 _ hs hj' HT5.out.rd).mono ?_
      rintro e w6 (⟨h6, rfl, hr6, hg6⟩ | ⟨h6, rfl, hr6, hg6⟩)
      all_goals
        have hT6 := HT5.out.step hr6 hg6
        have HTS := Lib.hid (HLT.out.stays (stays_grown hg6 (fun z hz => by have : w.heap.size + 1 ≤ z := hz; omega)))
        obtain ⟨x0, x1⟩ := HLX.out.grown hg6 hne
        obtain ⟨g0, g1, gz⟩ := hT6.facts
        have HT6 := Lib.hid hT6
        have H6 := Lib.hid h6
        clear hr6 hg6 h6 hT6
        go_wp2_with fail
        refine bodyPost_ret (v := .agg #[.int .i64 4, .slice (some ⟨w4.heap.size, 0, none⟩) 1 1]) ?_ rfl ?_
        · rw [results_cell1 rfl]
          go_simp
        · first
          | exact typ_fin (t := .mk 4 [t4]) HT6.out HTS.out (Or.inl ⟨rfl, by rw [pty_4 H3.out, ptys1_hit HP.out H6.out, ptys0]; rfl⟩)
          | exact typ_fin (t := .mk 4 [t4]) HT6.out HTS.out (Or.inr ⟨rfl, by rw [pty_4 H3.out, ptys1_miss HP.out H6.out]; rfl, hj'⟩)
    · have HT5 := Lib.hid ((HT3.out.step hrd hg4).below lb)
      have HP := Lib.hid hp
      clear hp hrd hg4 hs4 lb lx lts hsz hlt
      go_wp2_with fail
      refine (must_bad R s j 62 _ HT5.out.rd).mono ?_
      rintro e w6 ⟨rfl, hr6, hg6⟩
      have hT6 := HT5.out.step hr6 hg6
      have HTS := Lib.hid (HLT.out.stays (stays_grown hg6 (fun z hz => by have : w.heap.size + 1 ≤ z := hz; omega)))
      obtain ⟨x0, x1⟩ := HLX.out.grown hg6 hne
      obtain ⟨g0, g1, gz⟩ := hT6.facts
      have HT6 := Lib.hid hT6
      clear hr6 hg6 hT6
      go_wp2_with fail
      refine bodyPost_ret (v := .agg #[.int .i64 4, .slice (some ⟨w4.heap.size, 0, none⟩) 1 1]) ?_ rfl ?_
      · rw [results_cell1 rfl]
        go_simp
      · exact typ_fin (t := .mk 4 [t4]) HT6.out HTS.out (Or.inr ⟨rfl, by rw [pty_4 H3.out, ptys1_none HP.out]; rfl, hj⟩)
  have HT3 := Lib.hid (HT2.out.step hr3 hg3)
  have H3 := Lib.hid h3
  clear hr3 hg3 h3
  go_wp2_with fail
  refine (must_or R s i 40 _ hs hi HT3.out.rd).mono ?_
  rintro e w4 (⟨h4, rfl, hr4, hg4⟩ | ⟨h4, rfl, hr4, hg4⟩)
  rotate_left
  · have hT4 := HT3.out.step hr4 hg4
    obtain ⟨c0, c1, c2, z1, z2⟩ := hr4.cells
    obtain ⟨g0, g1, gz⟩ := hT4.facts
    have HT4 := Lib.hid hT4
    have H4 := Lib.hid h4
    clear hT4 hr4 hg4 h4
    go_wp2_with fail
    refine bodyPost_ret (v := .agg #[.int .i64 0, .slice none 0 0]) ?_ rfl ?_
    · rw [results_cell1 rfl]
      go_simp
    · exact typ_fin (t := .mk 0 []) HT4.out (.nil _ _) (Or.inr ⟨rfl, pty_0 H1.out H2.out H4.out H3.out, hi⟩)
  have HT4 := Lib.hid (HT3.out.step hr4 hg4)
  obtain ⟨c0, c1, c2, z1, z2⟩ := hr4.cells
  have H4 := Lib.hid h4
  have hi4 := bt_lt h4
  clear hr4 hg4 h4
  go_wp2_with fail
  refine (HIH.out (i + 1) w4 hi4 HT4.out.rd).mono ?_
  rintro e w5 ⟨v5, t5, rfl, ⟨s5, rfl, hs5⟩, hg5, ho5⟩
  obtain ⟨p5, c5, rfl⟩ := hs5.form
  clear c0 c1 c2 z1 z2
  have hlt := HT4.out.lt
  have hsz := hg5.size
  have hRl := HT4.out.hR
  have hba := alloc_below w5 (.cells #[.int .i64 t5.kind, .slice p5 t5.args.length c5] 26)
  have HX5 := Lib.hid (Bx.new w5 t5.kind (.slice p5 t5.args.length c5) 26)
  have HS5 := Lib.hid ((hs5.mono (C' := fun z => w.heap.size + 1 ≤ z) (fun z hz _ => by have : w4.heap.size ≤ z := hz; omega)).keep hba)
  have hne5 : R ≠ w5.heap.size := by omega
  have LT5 := Lib.hid (show w.heap.size + 1 ≤ w5.heap.size by omega)
  have hC : ∀ z, w.heap.size + 1 ≤ z → z ≠ R := fun z hz => by omega
  have HC := Lib.hid hC
  rcases ho5 with ⟨j, hp, hrd⟩ | ⟨hp, j, hj, hrd⟩
  rotate_left
  · have HT5 := Lib.hid ((HT4.out.step hrd hg5).below hba)
    have HP := Lib.hid hp
    clear hp hrd hg5 hs5 hba hsz hlt hC
    go_wp2_with fail
    refine (must_bad R s j 62 _ HT5.out.rd).mono ?_
    rintro e w6 ⟨rfl, hr6, hg6⟩
    have hT6 := HT5.out.step hr6 hg6
    obtain ⟨c0, c1, c2, z1, z2⟩ := hr6.cells
    obtain ⟨g0, g1, gz⟩ := hT6.facts
    have HT6 := Lib.hid hT6
    clear hr6 hg6 hT6
    go_wp2_with fail
    refine bodyPost_ret (v := .agg #[.int .i64 0, .slice none 0 0]) ?_ rfl ?_
    · rw [results_cell1 rfl]
      go_simp
    · exact typ_fin (t := .mk 0 []) HT6.out (.nil _ _) (Or.inr ⟨rfl, by rw [pty_3 H4.out, ptys1_none HP.out]; rfl, hj⟩)
  have HT5 := Lib.hid ((HT4.out.step hrd hg5).below hba)
  have hj : j ≤ s.size := by have := (pty_good _ _ _ _ _ hp).le; simpa using this
  have HP := Lib.hid hp
  clear hp hrd hg5 hs5 hba hsz hlt hC
  go_wp2_with fail
  refine (must_or R s j 62 _ hs hj HT5.out.rd).mono ?_
  rintro e w6 (⟨h6, rfl, hr6, hg6⟩ | ⟨h6, rfl, hr6, hg6⟩)
  rotate_left
  · have hT6 := HT5.out.step hr6 hg6
    obtain ⟨c0, c1, c2, z1, z2⟩ := hr6.cells
    obtain ⟨g0, g1, gz⟩ := hT6.facts
    have HT6 := Lib.hid hT6
    have H6 := Lib.hid h6
    clear hr6 hg6 hT6 h6
    go_wp2_with fail
    refine bodyPost_ret (v := .agg #[.int .i64 0, .slice none 0 0]) ?_ rfl ?_
    · rw [results_cell1 rfl]
      go_simp
    · exact typ_fin (t := .mk 0 []) HT6.out (.nil _ _) (Or.inr ⟨rfl, by rw [pty_3 H4.out, ptys1_miss HP.out H6.out]; rfl, hj⟩)
  have HT6 := Lib.hid (HT5.out.step hr6 hg6)
  have HX6 := Lib.hid (HX5.out.grown hg6 hne5)
  have HS6 := Lib.hid (HS5.out.stays (stays_grown hg6 HC.out))
  obtain ⟨c0, c1, c2, z1, z2⟩ := hr6.cells
  have H6 := Lib.hid h6
  have hj6 := bt_lt h6
  clear hr6 hg6 h6
  go_wp2_with fail
  refine (HIH.out (j + 1) w6 hj6 HT6.out.rd).mono ?_
  rintro e w7 ⟨v7, t7, rfl, ⟨s7, rfl, hs7⟩, hg7, ho7⟩
  obtain ⟨p7, c7, rfl⟩ := hs7.form
  clear c0 c1 c2 z1 z2
  have hlt := HT6.out.lt
  have hsz := hg7.size
  have hba := alloc_below w7 (.cells #[.int .i64 t7.kind, .slice p7 t7.args.length c7] 26)
  have HX7 := Lib.hid (Bx.new w7 t7.kind (.slice p7 t7.args.length c7) 26)
  have HS7 := Lib.hid ((hs7.mono (C' := fun z => w.heap.size + 1 ≤ z) (fun z hz _ => by have : w6.heap.size ≤ z := hz; omega)).keep hba)
  have HX67 := Lib.hid ((HX6.out.grown hg7 hne5).keep hba)
  have HS67 := Lib.hid ((HS6.out.stays (stays_grown hg7 HC.out)).keep hba)
  have hne7 : R ≠ w7.heap.size := by omega
  have LT7 := Lib.hid (show w.heap.size + 1 ≤ w7.heap.size by omega)
  rcases ho7 with ⟨n, hp7, hrd⟩ | ⟨hp7, n, hn, hrd⟩
  · have HT7 := Lib.hid ((HT6.out.step hrd hg7).below hba)
    have hn : n ≤ s.size := by have := (pty_good _ _ _ _ _ hp7).le; simpa using this
    have HP7 := Lib.hid hp7
    clear hp7 hrd hg7 hs7 hba hsz hlt
    go_wp2_with fail
    refine (must_or R s n 41 _ hs hn HT7.out.rd).mono ?_
    rintro e w8 (⟨h8, rfl, hr8, hg8⟩ | ⟨h8, rfl, hr8, hg8⟩)
    all_goals
      have hT8 := HT7.out.step hr8 hg8
      obtain ⟨x0, x1⟩ := HX67.out.grown hg8 hne5
      obtain ⟨y0, y1⟩ := HX7.out.grown hg8 hne7
      obtain ⟨f0, f1, gz⟩ := hT8.facts
      have g0 := al_cell f0
      have g1 := al_cell f1
      have gz := al_frz hT8.r
      have HT8 := Lib.hid hT8
      have H8 := Lib.hid h8
      have LT8 := Lib.hid (show w.heap.size + 1 ≤ w8.heap.size by have := hT8.lt; omega)
      have HTS := Lib.hid (lit2 (base := w.heap.size + 1) (HS67.out.stays (stays_grown hg8 HC.out)) (HS7.out.stays (stays_grown hg8 HC.out)) LT8.out)
      clear hr8 hg8 h8 hT8 f0 f1
      go_wp2_with fail
      refine bodyPost_ret (v := .agg #[.int .i64 3, .slice (some ⟨w8.heap.size, 0, none⟩) 2 2]) ?_ rfl ?_
      · rw [results_cell1 rfl]
        go_simp
      · first
        | exact typ_fin (t := .mk 3 [t5, t7]) (HT8.out.below (alloc_below _ _)) HTS.out (Or.inl ⟨rfl, by rw [pty_3 H4.out, ptys1_hit HP.out H6.out, ptys1_hit HP7.out H8.out, ptys0]; rfl⟩)
        | exact typ_fin (t := .mk 3 [t5, t7]) (HT8.out.below (alloc_below _ _)) HTS.out (Or.inr ⟨rfl, by rw [pty_3 H4.out, ptys1_hit HP.out H6.out, ptys1_miss HP7.out H8.out]; rfl, hn⟩)
  · have HT7 := Lib.hid ((HT6.out.step hrd hg7).below hba)
    have HP7 := Lib.hid hp7
    clear hp7 hrd hg7 hs7 hba hsz hlt
    go_wp2_with fail
    refine (must_bad R s n 41 _ HT7.out.rd).mono ?_
    rintro e w8 ⟨rfl, hr8, hg8⟩
    have hT8 := HT7.out.step hr8 hg8
    obtain ⟨x0, x1⟩ := HX67.out.grown hg8 hne5
    obtain ⟨y0, y1⟩ := HX7.out.grown hg8 hne7
    obtain ⟨f0, f1, gz⟩ := hT8.facts
    have g0 := al_cell f0
    have g1 := al_cell f1
    have gz := al_frz hT8.r
    have HT8 := Lib.hid hT8
    have LT8 := Lib.hid (show w.heap.size + 1 ≤ w8.heap.size by have := hT8.lt; omega)
    have HTS := Lib.hid (lit2 (base := w.heap.size + 1) (HS67.out.stays (stays_grown hg8 HC.out)) (HS7.out.stays (stays_grown hg8 HC.out)) LT8.out)
    clear hr8 hg8 hT8 f0 f1
    go_wp2_with fail
    refine bodyPost_ret (v := .agg #[.int .i64 3, .slice (some ⟨w8.heap.size, 0, none⟩) 2 2]) ?_ rfl ?_
    · rw [results_cell1 rfl]
      go_simp
    · exact typ_fin (t := .mk 3 [t5, t7]) (HT8.out.below (alloc_below _ _)) HTS.out (Or.inr ⟨rfl, by rw [pty_3 H4.out, ptys1_hit HP.out H6.out, ptys1_none HP7.out]; rfl, hn⟩)
theorem typ_any (R : Nat) (s : ByteArray) (hs : s.size ≤ 1073741824) : ∀ (k : Nat), k ≤ 8 → ∀ (i : Nat) (W : World), i ≤ s.size → Rd W R s i false →
    Calls Tryz.prog 232 #[.pointer (some ⟨R, 0, none⟩), .int .i64 (9 - (k : Int))] W (TypRet R s k i W)
  | 0, _, i, W, hi, hr => typ_deep _ (by omega) R s i W hi hr
  | k + 1, hk, i, W, hi, hr => typ_step k _ (by omega) (by omega) R s hs (fun i W hi hr => by
      have := typ_any R s hs k (by omega) i W hi hr
      rwa [show (9 - (k : Int)) = 9 - ((k + 1 : Nat) : Int) + 1 by omega] at this) i W hi hr
end Go.Proofs.YtfeijijeohfpgaaGreatDoor
namespace Go.Proofs.YtfeijijeohfpgaaGreatDoor
open Go Go.RowKit
structure Tg where
  nm : ByteArray
  ty : Ty
  lv : Int
def Tg.ds (x : Tg) : List D := [.cell (.string x.nm), .cell (.int .i64 x.ty.kind), tyD x.ty.args, .cell (.int .i64 x.lv)]
theorem Tg.ds_len (x : Tg) : x.ds.length = 4 := rfl
abbrev flatCx (L : List Tg) : List D := L.flatMap Tg.ds
abbrev cxD (L : List Tg) : D := .rows 79 4 L.length (flatCx L)
theorem flatCx_len (L : List Tg) : (flatCx L).length = L.length * 4 := flat_len _ 4 Tg.ds_len L
theorem flatCx_at (L : List Tg) (j i : Nat) (h : j < L.length) (hi : i < 4) : (flatCx L)[j * 4 + i]? = (L[j].ds)[i]? := by
  rw [flat_at Tg.ds 4 Tg.ds_len L j i hi, List.getElem?_eq_getElem h]; rfl
structure CX (w : World) (C : Nat → Prop) (L : List Tg) (v : Value) : Prop where
  dm : DM w C (cxD L) v
  ty : ∀ x ∈ L, nodesS x.ty.args ≤ 100
  nm : ∀ x ∈ L, x.nm.size ≤ 100
theorem CX.stays {w w' : World} {C : Nat → Prop} {L : List Tg} {v : Value} (h : CX w C L v) (hs : Stays C w w') : CX w' C L v := ⟨h.dm.stays hs, h.ty, h.nm⟩
theorem CX.mono {w : World} {C C' : Nat → Prop} {L : List Tg} {v : Value} (h : CX w C L v) (hC : ∀ z, C z → z < w.heap.size → C' z) : CX w C' L v := ⟨h.dm.mono hC, h.ty, h.nm⟩
structure At4 (w : World) (b o : Nat) (x : Tg) (q : Option Addr) (c : Nat) : Prop where
  nm : w.cell? ⟨b, o, none⟩ = some (.string x.nm)
  kind : w.cell? ⟨b, o + 1, none⟩ = some (.int .i64 x.ty.kind)
  args : w.cell? ⟨b, o + 2, none⟩ = some (.slice q x.ty.args.length c)
  lv : w.cell? ⟨b, o + 3, none⟩ = some (.int .i64 x.lv)
theorem cx_part {w0 : World} {C : Nat → Prop} {L : List Tg} {q : Option Addr} {d : Nat} (h : DM w0 C (cxD L) (.slice q L.length d)) (j : Nat) (hj : j < L.length) :
    ∃ (b o : Nat) (p : Option Addr) (c : Nat), q = some ⟨b, o, none⟩ ∧ C b ∧ b < w0.heap.size ∧ (∀ w', Stays C w0 w' → At4 w' b (o + j * 4) L[j] p c) ∧ TS w0 C L[j].ty.args (.slice p L[j].ty.args.length c) := by
  obtain ⟨b, o, V, rfl, hC, hb, hp⟩ := h.part (by rw [flatCx_len]; omega)
  have part : ∀ (i : Nat) (d : D), i < 4 → (L[j].ds)[i]? = some d → DM w0 C d (V (j * 4 + i)) ∧ ∀ w', Stays C w0 w' → w'.cell? ⟨b, o + j * 4 + i, none⟩ = some (V (j * 4 + i)) := fun i d hi hd => by
    obtain ⟨h1, h2⟩ := hp (j * 4 + i) d (by rw [flatCx_at L j i hj hi]; exact hd)
    exact ⟨h1, fun w' hw => by rw [Nat.add_assoc]; exact h2 w' hw⟩
  obtain ⟨a0, b0⟩ := part 0 _ (by omega) rfl
  obtain ⟨a1, b1⟩ := part 1 _ (by omega) rfl
  obtain ⟨a2, b2⟩ := part 2 _ (by omega) rfl
  obtain ⟨a3, b3⟩ := part 3 _ (by omega) rfl
  rw [a0.val] at b0
  rw [a1.val] at b1
  rw [a3.val] at b3
  obtain ⟨p, c, e2⟩ := a2.form
  rw [e2] at a2 b2
  exact ⟨b, o, p, c, rfl, hC, hb, fun w' hw => ⟨b0 w' hw, b1 w' hw, b2 w' hw, b3 w' hw⟩, a2.ts _ (Nat.le_refl _)⟩
theorem CX.form {w : World} {C : Nat → Prop} {L : List Tg} {v : Value} (h : CX w C L v) : ∃ q c, v = .slice q L.length c := h.dm.form
theorem cx_nil (w : World) (C : Nat → Prop) (a : Option Addr) (c : Nat) : CX w C [] (.slice a 0 c) := ⟨.nil _ _ a c, by simp, by simp⟩
def TgV (w : World) (C : Nat → Prop) (x : Tg) (us : List Value) : Prop := ∃ (p : Option Addr) (c : Nat), us = [.string x.nm, .int .i64 x.ty.kind, .slice p x.ty.args.length c, .int .i64 x.lv] ∧ TS w C x.ty.args (.slice p x.ty.args.length c)
theorem TgV.stays {w w' : World} {C : Nat → Prop} {x : Tg} {us : List Value} (h : TgV w C x us) (hs : Stays C w w') : TgV w' C x us := by
  obtain ⟨p, c, h1, h2⟩ := h
  exact ⟨p, c, h1, h2.stays hs⟩
theorem TgV.mono {w : World} {C C' : Nat → Prop} {x : Tg} {us : List Value} (h : TgV w C x us) (hC : ∀ z, C z → z < w.heap.size → C' z) : TgV w C' x us := by
  obtain ⟨p, c, h1, h2⟩ := h
  exact ⟨p, c, h1, h2.mono hC⟩
structure RowCx (w : World) (base : Nat) (C : Nat → Prop) (L : List Tg) (v : Value) (xs : List Value) : Prop where
  own : w.ownsRow base 79 4 v L.length xs
  cells : ∀ j x, L[j]? = some x → TgV w C x ((xs.drop (j * 4)).take 4)
theorem RowCx.keep {w w' : World} {base : Nat} {C : Nat → Prop} {L : List Tg} {v : Value} {xs : List Value} (h : RowCx w base C L v xs) (hs : Stays C w w') (hv : ∀ g, v.ownBlock = some g → w'.heap[g]? = w.heap[g]?) : RowCx w' base C L v xs := by
  refine ⟨⟨h.own.1, ?_⟩, fun j x hj => (h.cells j x hj).stays hs⟩
  rcases h.own.2 with h0 | ⟨g, cap, cur, rfl, hg, hblk, r⟩
  · exact Or.inl h0
  · exact Or.inr ⟨g, cap, cur, rfl, hg, (hv g rfl).trans hblk, r⟩
theorem RowCx.app {w w' : World} {base : Nat} {C : Nat → Prop} {L : List Tg} {v : Value} {xs us : List Value} {x : Tg} {g cap : Nat} (h : RowCx w base C L v xs) (hA : Appd w w' base 79 4 v L.length xs us g cap) (hx : TgV w C x us) (hC : ∀ z, C z → z < w.heap.size ∧ v.ownBlock ≠ some z) :
    RowCx w' base C (L ++ [x]) (.slice (some ⟨g, 0, none⟩) (L.length + 1) cap) (xs ++ us) ∧ (∀ z, C z → z < w'.heap.size ∧ (Value.slice (some ⟨g, 0, none⟩) (L.length + 1) cap).ownBlock ≠ some z) := by
  have hst : Stays C w w' := ⟨hA.size, fun z hz hl => (hA.kept z hl (hC z hz).2).1⟩
  have hlx : xs.length = L.length * 4 := h.own.1
  have hlu : us.length = 4 := by obtain ⟨p, c, rfl, _⟩ := hx; rfl
  refine ⟨⟨by rw [List.length_append, List.length_singleton]; exact hA.own, fun j y hj => ?_⟩, fun z hz => ⟨Nat.lt_of_lt_of_le (hC z hz).1 hA.size, fun e => ?_⟩⟩
  · by_cases hjl : j < L.length
    · rw [List.getElem?_append_left hjl] at hj
      have h1 := (h.cells j y hj).stays hst
      rw [List.drop_append_of_le_length (by omega), List.take_append_of_le_length (by rw [List.length_drop]; omega)]
      exact h1
    · have hje : j = L.length := by
        have := (List.getElem?_eq_some_iff.1 hj).1
        rw [List.length_append, List.length_singleton] at this
        omega
      subst hje
      rw [List.getElem?_concat_length] at hj
      cases hj
      have h1 := hx.stays hst
      rw [← hlx, List.drop_left, List.take_of_length_le (by omega)]
      exact h1
  · simp only [Value.ownBlock, Option.some.injEq] at e
    exact (hA.kept z (hC z hz).1 (hC z hz).2).2 e
theorem RowCx.dm {w : World} {base : Nat} {C C' : Nat → Prop} {L : List Tg} {v : Value} {xs : List Value} (h : RowCx w base C L v xs) (hC : ∀ z, C z → C' z) (hv : ∀ g, v.ownBlock = some g → C' g) : DM w C' (cxD L) v := by
  rcases h.own.2 with ⟨rfl, h0⟩ | ⟨g, cap, cur, rfl, hg, hblk, h1, h2, h3, h4⟩
  · obtain rfl := List.eq_nil_of_length_eq_zero h0
    exact .nil _ _ _ _
  · have hlx : xs.length = L.length * 4 := h.own.1
    by_cases h0 : L.length = 0
    · obtain rfl := List.eq_nil_of_length_eq_zero h0
      exact .nil _ _ _ _
    have hcell : ∀ i, i < L.length * 4 → w.cell? ⟨g, 0 + i, none⟩ = some (xs.getD i undef) := fun i hi => by
      rw [Nat.zero_add, h.own.cellAt i (by omega), List.getD_eq_getElem?_getD, List.getElem?_eq_getElem (by omega)]; rfl
    refine .rows (fun i => xs.getD i undef) (by omega) h1 (Nat.le_trans h2 (by decide)) (flatCx_len L) (hv g rfl) (Array.getElem?_eq_some_iff.1 hblk).1 (fun i d hi => hcell i (by rw [← flatCx_len]; exact (List.getElem?_eq_some_iff.1 hi).1)) (fun i d hi => ?_)
    have hlt : i < L.length * 4 := by rw [← flatCx_len]; exact (List.getElem?_eq_some_iff.1 hi).1
    have hj : i / 4 < L.length := by omega
    have hx := List.getElem?_eq_getElem hj
    have hd : (L[i / 4].ds)[i % 4]? = some d := by rw [← flatCx_at L (i / 4) (i % 4) hj (by omega), show i / 4 * 4 + i % 4 = i by omega]; exact hi
    obtain ⟨p, c, hus, hts⟩ := h.cells (i / 4) _ hx
    have hval : xs.getD i undef = [Value.string L[i / 4].nm, .int .i64 L[i / 4].ty.kind, .slice p L[i / 4].ty.args.length c, .int .i64 L[i / 4].lv].getD (i % 4) undef := by
      rw [← hus, List.getD_eq_getElem?_getD, List.getD_eq_getElem?_getD, List.getElem?_take, if_pos (by omega), List.getElem?_drop, show i / 4 * 4 + i % 4 = i by omega]
    rw [hval]
    have hm : i % 4 = 0 ∨ i % 4 = 1 ∨ i % 4 = 2 ∨ i % 4 = 3 := by omega
    rcases hm with hm | hm | hm | hm
    all_goals
      rw [hm] at hd ⊢
      simp only [Tg.ds, List.getElem?_cons_zero, List.getElem?_cons_succ, Option.some.injEq] at hd
      subst hd
    · exact .cell _
    · exact .cell _
    · exact (hts.mono (fun z hz _ => hC z hz)).dm
    · exact .cell _
end Go.Proofs.YtfeijijeohfpgaaGreatDoor
