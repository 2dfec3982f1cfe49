/-
  Several texts of the proof in one (each says below what it holds): TmDrawn TmDrawn2.
-/
import Derived.Test.YtjobmgbchpoheaaGreatDoorPB25
import Derived.Test.YtjobmgbchpoheaaGreatDoorPB8
import Derived.Deep.RegionHeldLaw
import Derived.IntWalk
namespace Go.Proofs.YtjobmgbchpoheaaGreatDoor
open Go Go.RowKit

theorem leaf_draw {w W : World} {b m : Nat} (h : RdyM w b W) (hbw : b < w.heap.size) (k : Int) (s : ByteArray) (n : Int) (hs : s.size ≤ m) :
    DrawM m b w (.returned (leafV k s n)) (setN W w.heap.size 0 [.int .i64 k, .string s, .string ⟨#[]⟩, .int .i64 n, .int .i64 0, .slice none 0 0, .int .i64 0, .slice none 0 0, .slice none 0 0]) :=
  have hf := h.fin hbw _
  ⟨leaf k s n, none, 0, none, 0, none, 0, [], rfl, by simp [Tm.wt, wtS, nodesS]; exact hs, leaf_new _ _ _ _ _ _, hf.1, hf.2.1⟩
theorem wt_of {k n : Int} {a o : ByteArray} {ty res : Ty} {ts : List Tm} {m j : Nat} (ha : a.size ≤ 1) (ho : o.size ≤ 1) (h1 : ty.nodes + 1 ≤ 4) (h2 : res.nodes + 1 ≤ 4) (hj : j ≤ 3) (hw : wtS ts ≤ j * (m + 1)) : (Tm.mk k a o n ty res ts).wt ≤ 3 * m + 9 := by
  rw [ty.nodes_eq] at h1
  rw [res.nodes_eq] at h2
  have : j * (m + 1) ≤ 3 * (m + 1) := Nat.mul_le_mul_right _ hj
  simp only [Tm.wt]
  omega
theorem InBox.of {w W : World} {bx z : Nat} (h1 : w.heap.size + 1 ≤ bx) (h2 : bx < W.heap.size) (hz : W.heap.size ≤ z) : InBox w bx z := ⟨by omega, by omega⟩

set_option maxRecDepth 100000 in
set_option maxHeartbeats 8000000 in
theorem anyM_step (m : Nat) (D : Int) (hD0 : 2 ≤ D) (hD : D ≤ 4) (hm : m ≤ 1000)
    (IH : ∀ (b : Nat) (W : World), Cur W b → Calls Tryz.prog 44 #[.pointer (some ⟨b, 0, none⟩), .int .i64 (D - 1)] W (DrawM m b W)) (b : Nat) (w : World) (hc : Cur w b) :
    Calls Tryz.prog 44 #[.pointer (some ⟨b, 0, none⟩), .int .i64 D] w (DrawM (3 * m + 9) b w) := by
  obtain ⟨i0, hi, hz0, hz1, hz2⟩ := info_parts infoTm
  have hbw := hc.lt
  have HR0 := Lib.hid (RdyM.start hc)
  have HIH := Lib.hid IH
  have HWR := Lib.hid (show IntKind.i64.wrap (D - 1) = D - 1 from IntWalk.i64_in _ (by omega))
  clear hc IH
  go_enter Tryz.func44, Tryz.ntmps44
  go_wp2_with fail
  refine (once_any b 5 _ (by decide) (by decide) HR0.out.cur).mono ?_
  rintro e w1 ⟨q, rfl, hc1, hg1⟩
  have HR1 := Lib.hid (HR0.out.step hbw hc1 hg1)
  clear hc1 hg1
  cases q with
  | true =>
    go_wp2_with fail
    refine (leafM_any b w1 HR1.out.cur).mono ?_
    rintro e w2 ⟨k, s, n, rfl, hs, hc2, hg2⟩
    have hr2 := HR1.out.step hbw hc2 hg2
    have HR2 := Lib.hid hr2
    obtain ⟨⟨g0, g1, g2, g3, g4, g5, g6, g7, g8⟩, gz⟩ := hr2.facts
    clear hr2 hc2 hg2
    go_wp2_with fail
    refine bodyPost_ret (v := leafV k s n) ?_ rfl ?_
    · rw [results_cell1 rfl]
      go_simp
    · have := leaf_draw (m := 3 * m + 9) HR2.out hbw k s n (by omega)
      rw [setN9] at this
      exact this
  | false =>
    go_wp2_with fail
    refine (pickInt_litG [4, 5, 6, 7, 8, 9, 10, 11, 12, 13, 10, 4] 12 b w1 _ rfl (by decide) (by decide) rfl HR1.out.cur).mono ?_
    rintro e w2 ⟨y, hy, rfl, hc2, hg2⟩
    have hr2 := HR1.out.step hbw hc2 hg2
    have HR2 := Lib.hid hr2
    have hlt2 := hr2.lt
    have HBX0 := Lib.hid (show BoxM w b w2.heap.size (w2.alloc (.cells #[.int .i64 y, .string ⟨#[]⟩, .string ⟨#[]⟩, .int .i64 0, .int .i64 0, .slice none 0 0, .int .i64 0, .slice none 0 0, .slice none 0 0] 29)) (.mk y ⟨#[]⟩ ⟨#[]⟩ 0 (.mk 0 []) (.mk 0 []) []) none 0 none 0 none 0 [] from
      ⟨hr2.below (al_below _ _), blk_new w2 _, ⟨.nil _ _, .nil _ _, RowM.start _ _ _⟩, by omega⟩)
    have HY := Lib.hid hy
    clear hr2 hc2 hg2 hy
    rcases (show y = 4 ∨ y = 6 ∨ y = 8 ∨ y = 9 ∨ (y ≠ 4 ∧ y ≠ 6 ∧ y ≠ 8 ∧ y ≠ 9) by omega) with rfl | rfl | rfl | rfl | ⟨y4, y6, y8, y9⟩
    · skip
      have hp3 := pickS_litG [⟨#[43]⟩, ⟨#[45]⟩, ⟨#[42]⟩, ⟨#[61]⟩, ⟨#[60]⟩, ⟨#[38]⟩, ⟨#[124]⟩, ⟨#[33]⟩] 8 b _ #[.string ⟨#[43]⟩, .string ⟨#[45]⟩, .string ⟨#[42]⟩, .string ⟨#[61]⟩, .string ⟨#[60]⟩, .string ⟨#[38]⟩, .string ⟨#[124]⟩, .string ⟨#[33]⟩] rfl (by decide) (by decide) rfl HBX0.out.rdy.cur
      rw [World.size_alloc] at hp3
      have HP3 := Lib.hid hp3
      clear hp3
      go_wp2_with fail
      refine HP3.out.mono ?_
      rintro e w3 ⟨a, ha, rfl, hc3, hg3⟩
      have HSa := Lib.hid (show a.size ≤ 1 by simp at ha; rcases ha with rfl | rfl | rfl | rfl | rfl | rfl | rfl | rfl <;> decide)
      have hbx3 := HBX0.out.step hbw hc3 hg3
      have HBX3 := Lib.hid hbx3
      clear ha hc3 hg3 HP3
      obtain ⟨⟨g0, g1, g2, g3, g4, g5, g6, g7, g8⟩, gz⟩ := hbx3.facts
      clear hbx3
      have HBA := Lib.hid (HBX3.out.setName hbw a)
      go_wp2_with fail
      refine (arityS_any (.mk 4 a ⟨#[]⟩ 0 (.mk 0 []) (.mk 0 []) []) none 0 none 0 none 0 _).mono ?_
      rintro e w5 ⟨rfl, hb5⟩
      have HBX5 := Lib.hid (HBA.out.below hb5)
      obtain ⟨N, hN⟩ : ∃ N, (Tm.mk 4 a ⟨#[]⟩ 0 (.mk 0 []) (.mk 0 []) []).arity = N := ⟨_, rfl⟩
      have hr : -1 ≤ N ∧ N ≤ 3 := hN ▸ arK_range _ _ (opAr_range _)
      obtain ⟨hr0, hr3⟩ := hr
      rw [hN]
      clear hN hb5 g0 g1 g2 g3 g4 g5 g6 g7 g8 gz
      go_wp2_with fail
      go_loopw [7] (fun i wr => ∃ (j : Nat) (ts : List Tm) (p : Option Addr) (c : Nat) (xs : List Value), ((j : Int) ≤ N ∨ j = 0) ∧ i = .int .i64 j ∧ ts.length = j ∧ wtS ts ≤ j * (m + 1) ∧ BoxM w b w2.heap.size wr (.mk 4 a ⟨#[]⟩ 0 (.mk 0 []) (.mk 0 []) ts) none 0 none 0 p c xs) (fun i _ => N.toNat - (intOf i).toNat)
      case atStart => exact ⟨0, [], none, 0, [], Or.inr rfl, rfl, rfl, by simp [wtS], HBX5.out⟩
      case round =>
        obtain ⟨j, ts, p, c, xs, hj, rfl, hl, hw, hb⟩ := hrel
        obtain ⟨⟨g0, g1, g2, g3, g4, g5, g6, g7, g8⟩, gz⟩ := hb.facts
        have HB := Lib.hid hb
        have HWT := Lib.hid hw
        have HL := Lib.hid hl
        have hl3 : ts.length ≤ 3 := by omega
        have j0 : (0 : Int) ≤ (j : Int) := Int.natCast_nonneg _
        have j3 : j ≤ 3 := by omega
        clear hw hl
        by_cases hlt : (j : Int) < N
        · have hbd := hb.below (Below.refl _ wr).drew
          have HBD := Lib.hid hbd
          have hiw := HIH.out b wr.drew hbd.rdy.cur
          rw [← HWR.out] at hiw
          have HIW := Lib.hid hiw
          clear hiw
          clear hb hbd
          go_wp2_with fail
          go_region_law (first
            | (refine step_app1 (w0 := w6) (v := .slice p ts.length c) (n := ts.length) (xs := xs) rfl (.tmp 65) (.tmp 70) rfl Tryz.underlying27 hi hz0 hz1 hz2 rfl (by decide) rfl HB6.out.new.row.own _ rfl (by simp) rfl (fun u hu => by simp at hu; rcases hu with rfl | rfl | rfl | rfl | rfl | rfl | rfl | rfl | rfl <;> rfl) (by unfold maxLen; omega) (by omega) (by have := HB6.out.bxlt; have := HB6.out.lt; omega) ?_; intro w' g2' cap2 hA; have d6b := (hA.kept w2.heap.size HB6.out.bxlt (fun e => (HB6.out.new.row.blk _ e).2 rfl)).1.trans HB6.out.box; have d6 : w'.cell? ⟨w2.heap.size, 8, none⟩ = some (.slice p ts.length c) := cell_of_blk d6b 8; have d6z := unfrozen_of_blk d6b)
            | (go_simp; go_at_call 44; refine HIW.out.mono ?_; rintro e w6 ⟨t6, tp6, tc6, rp6, rc6, p6, c6, xs6, rfl, hw6, hN6, hc6, hg6⟩; have hb6 := HBD.out.step hbw hc6 hg6; have HB6 := Lib.hid hb6; have d4 : w6.cell? ⟨w2.heap.size, 8, none⟩ = some (.slice p ts.length c) := hb6.facts.1.2.2.2.2.2.2.2.2; have d4z := hb6.facts.2; have d5 := fun (o : Obj) => al_cell d4 o; clear hb6))
          all_goals
            have hown : ∀ z, wr.drew.heap.size ≤ z → (Value.slice p ts.length c).ownBlock ≠ some z := fun z hz e => by
              have := (HBD.out.new.row.own.lt z e).2
              omega
            have hx := (hN6.tm.mono (C' := fun z => InBox w w2.heap.size z ∧ (Value.slice p ts.length c).ownBlock ≠ some z) (fun z hz _ => ⟨InBox.of HBD.out.lt HBD.out.bxlt hz, hown z hz⟩)).ms
            have HBZ := Lib.hid (HB6.out.app hbw hA hx)
            have HWZ := Lib.hid (show wtS (ts ++ [t6]) ≤ (j + 1) * (m + 1) by
              have := HWT.out
              rw [wtS_append, Nat.add_mul]
              simp only [wtS]
              omega)
            clear hx hown hA hw6 hN6 hc6 hg6 d4 d4z d5 d6b d6 d6z g0 g1 g2 g3 g4 g5 g6 g7 g8 gz
            go_wp2_with fail
            go_roundw
            case rel => exact ⟨j + 1, ts ++ [t6], some ⟨g2', 0, none⟩, cap2, _, Or.inl (by omega), by go_num, by simp [HL.out], HWZ.out, HBZ.out⟩
            case measure => simp [intOf]; omega
        · obtain ⟨⟨x0, x1, x2, x3, x4, x5, x6, x7, x8⟩, xz⟩ := hb.rdy.facts
          clear hb
          go_wp2_with fail
          refine bodyPost_ret (v := tmV (.mk 4 a ⟨#[]⟩ 0 (.mk 0 []) (.mk 0 []) ts) none 0 none 0 p c) ?_ rfl ?_
          · rw [results_cell1 rfl]
            go_simp
            all_goals (repeat' apply And.intro) <;> rfl
          · have := HB.out.fin hbw (wt_of (k := 4) (n := 0) (a := a) (o := ⟨#[]⟩) (ty := (.mk 0 [])) (res := (.mk 0 [])) (ts := ts) (m := m) HSa.out (by decide) (by simp [Ty.nodes, nodesS]) (by simp [Ty.nodes, nodesS]) j3 HWT.out)
            rw [setN9] at this
            exact this
    · skip
      have hp3 := pickS_litG [⟨#[120]⟩, ⟨#[121]⟩, ⟨#[102]⟩] 3 b _ #[.string ⟨#[120]⟩, .string ⟨#[121]⟩, .string ⟨#[102]⟩] rfl (by decide) (by decide) rfl HBX0.out.rdy.cur
      rw [World.size_alloc] at hp3
      have HP3 := Lib.hid hp3
      clear hp3
      go_wp2_with fail
      refine HP3.out.mono ?_
      rintro e w3 ⟨a, ha, rfl, hc3, hg3⟩
      have HSa := Lib.hid (show a.size ≤ 1 by simp at ha; rcases ha with rfl | rfl | rfl <;> decide)
      have hbx3 := HBX0.out.step hbw hc3 hg3
      have HBX3 := Lib.hid hbx3
      clear ha hc3 hg3 HP3
      obtain ⟨⟨g0, g1, g2, g3, g4, g5, g6, g7, g8⟩, gz⟩ := hbx3.facts
      clear hbx3
      have HBM := Lib.hid (HBX3.out.setName hbw a)
      go_wp2_with fail
      refine (draw_any 2 (by decide) (by decide) b _ HBM.out.rdy.cur).mono ?_
      rintro e w4 ⟨v4, u, rfl, hn4, hn, hc4, hg4⟩
      obtain ⟨s4, rfl, hs4⟩ := hn.tt
      obtain ⟨q4, d4, rfl⟩ := hs4.form
      have hbx4 := HBM.out.step hbw hc4 hg4
      have HBX4 := Lib.hid hbx4
      have HT4 := Lib.hid (hs4.mono (C' := fun z => InBox w w2.heap.size z ∧ (Value.slice none 0 0).ownBlock ≠ some z) (fun z hz _ => ⟨InBox.of HBM.out.lt HBM.out.bxlt hz, by simp [Value.ownBlock]⟩))
      have HN4 := Lib.hid hn4
      clear hn4 hn hs4 hc4 hg4
      clear g0 g1 g2 g3 g4 g5 g6 g7 g8 gz
      obtain ⟨⟨g0, g1, g2, g3, g4, g5, g6, g7, g8⟩, gz⟩ := hbx4.facts
      clear hbx4
      have HBA := Lib.hid (HBX4.out.setTy hbw HT4.out)
      go_wp2_with fail
      refine (arityS_any (.mk 6 a ⟨#[]⟩ 0 u (.mk 0 []) []) q4 d4 none 0 none 0 _).mono ?_
      rintro e w5 ⟨rfl, hb5⟩
      have HBX5 := Lib.hid (HBA.out.below hb5)
      obtain ⟨N, hN⟩ : ∃ N, (Tm.mk 6 a ⟨#[]⟩ 0 u (.mk 0 []) []).arity = N := ⟨_, rfl⟩
      have hr : -1 ≤ N ∧ N ≤ 3 := hN ▸ arK_range _ _ (opAr_range _)
      obtain ⟨hr0, hr3⟩ := hr
      rw [hN]
      clear hN hb5 g0 g1 g2 g3 g4 g5 g6 g7 g8 gz
      go_wp2_with fail
      go_loopw [7] (fun i wr => ∃ (j : Nat) (ts : List Tm) (p : Option Addr) (c : Nat) (xs : List Value), ((j : Int) ≤ N ∨ j = 0) ∧ i = .int .i64 j ∧ ts.length = j ∧ wtS ts ≤ j * (m + 1) ∧ BoxM w b w2.heap.size wr (.mk 6 a ⟨#[]⟩ 0 u (.mk 0 []) ts) q4 d4 none 0 p c xs) (fun i _ => N.toNat - (intOf i).toNat)
      case atStart => exact ⟨0, [], none, 0, [], Or.inr rfl, rfl, rfl, by simp [wtS], HBX5.out⟩
      case round =>
        obtain ⟨j, ts, p, c, xs, hj, rfl, hl, hw, hb⟩ := hrel
        obtain ⟨⟨g0, g1, g2, g3, g4, g5, g6, g7, g8⟩, gz⟩ := hb.facts
        have HB := Lib.hid hb
        have HWT := Lib.hid hw
        have HL := Lib.hid hl
        have hl3 : ts.length ≤ 3 := by omega
        have j0 : (0 : Int) ≤ (j : Int) := Int.natCast_nonneg _
        have j3 : j ≤ 3 := by omega
        clear hw hl
        by_cases hlt : (j : Int) < N
        · have hbd := hb.below (Below.refl _ wr).drew
          have HBD := Lib.hid hbd
          have hiw := HIH.out b wr.drew hbd.rdy.cur
          rw [← HWR.out] at hiw
          have HIW := Lib.hid hiw
          clear hiw
          clear hb hbd
          go_wp2_with fail
          go_region_law (first
            | (refine step_app1 (w0 := w6) (v := .slice p ts.length c) (n := ts.length) (xs := xs) rfl (.tmp 65) (.tmp 70) rfl Tryz.underlying27 hi hz0 hz1 hz2 rfl (by decide) rfl HB6.out.new.row.own _ rfl (by simp) rfl (fun u hu => by simp at hu; rcases hu with rfl | rfl | rfl | rfl | rfl | rfl | rfl | rfl | rfl <;> rfl) (by unfold maxLen; omega) (by omega) (by have := HB6.out.bxlt; have := HB6.out.lt; omega) ?_; intro w' g2' cap2 hA; have d6b := (hA.kept w2.heap.size HB6.out.bxlt (fun e => (HB6.out.new.row.blk _ e).2 rfl)).1.trans HB6.out.box; have d6 : w'.cell? ⟨w2.heap.size, 8, none⟩ = some (.slice p ts.length c) := cell_of_blk d6b 8; have d6z := unfrozen_of_blk d6b)
            | (go_simp; go_at_call 44; refine HIW.out.mono ?_; rintro e w6 ⟨t6, tp6, tc6, rp6, rc6, p6, c6, xs6, rfl, hw6, hN6, hc6, hg6⟩; have hb6 := HBD.out.step hbw hc6 hg6; have HB6 := Lib.hid hb6; have d4 : w6.cell? ⟨w2.heap.size, 8, none⟩ = some (.slice p ts.length c) := hb6.facts.1.2.2.2.2.2.2.2.2; have d4z := hb6.facts.2; have d5 := fun (o : Obj) => al_cell d4 o; clear hb6))
          all_goals
            have hown : ∀ z, wr.drew.heap.size ≤ z → (Value.slice p ts.length c).ownBlock ≠ some z := fun z hz e => by
              have := (HBD.out.new.row.own.lt z e).2
              omega
            have hx := (hN6.tm.mono (C' := fun z => InBox w w2.heap.size z ∧ (Value.slice p ts.length c).ownBlock ≠ some z) (fun z hz _ => ⟨InBox.of HBD.out.lt HBD.out.bxlt hz, hown z hz⟩)).ms
            have HBZ := Lib.hid (HB6.out.app hbw hA hx)
            have HWZ := Lib.hid (show wtS (ts ++ [t6]) ≤ (j + 1) * (m + 1) by
              have := HWT.out
              rw [wtS_append, Nat.add_mul]
              simp only [wtS]
              omega)
            clear hx hown hA hw6 hN6 hc6 hg6 d4 d4z d5 d6b d6 d6z g0 g1 g2 g3 g4 g5 g6 g7 g8 gz
            go_wp2_with fail
            go_roundw
            case rel => exact ⟨j + 1, ts ++ [t6], some ⟨g2', 0, none⟩, cap2, _, Or.inl (by omega), by go_num, by simp [HL.out], HWZ.out, HBZ.out⟩
            case measure => simp [intOf]; omega
        · obtain ⟨⟨x0, x1, x2, x3, x4, x5, x6, x7, x8⟩, xz⟩ := hb.rdy.facts
          clear hb
          go_wp2_with fail
          refine bodyPost_ret (v := tmV (.mk 6 a ⟨#[]⟩ 0 u (.mk 0 []) ts) q4 d4 none 0 p c) ?_ rfl ?_
          · rw [results_cell1 rfl]
            go_simp
            all_goals (repeat' apply And.intro) <;> rfl
          · have := HB.out.fin hbw (wt_of (k := 6) (n := 0) (a := a) (o := ⟨#[]⟩) (ty := u) (res := (.mk 0 [])) (ts := ts) (m := m) HSa.out (by decide) HN4.out (by simp [Ty.nodes, nodesS]) j3 HWT.out)
            rw [setN9] at this
            exact this
    · skip
      have hp3 := pickS_litG [⟨#[120]⟩, ⟨#[121]⟩, ⟨#[102]⟩] 3 b _ #[.string ⟨#[120]⟩, .string ⟨#[121]⟩, .string ⟨#[102]⟩] rfl (by decide) (by decide) rfl HBX0.out.rdy.cur
      rw [World.size_alloc] at hp3
      have HP3 := Lib.hid hp3
      clear hp3
      go_wp2_with fail
      refine HP3.out.mono ?_
      rintro e w3 ⟨a, ha, rfl, hc3, hg3⟩
      have HSa := Lib.hid (show a.size ≤ 1 by simp at ha; rcases ha with rfl | rfl | rfl <;> decide)
      have hbx3 := HBX0.out.step hbw hc3 hg3
      have HBX3 := Lib.hid hbx3
      clear ha hc3 hg3 HP3
      obtain ⟨⟨g0, g1, g2, g3, g4, g5, g6, g7, g8⟩, gz⟩ := hbx3.facts
      clear hbx3
      have HBA := Lib.hid (HBX3.out.setName hbw a)
      go_wp2_with fail
      refine (arityS_any (.mk 8 a ⟨#[]⟩ 0 (.mk 0 []) (.mk 0 []) []) none 0 none 0 none 0 _).mono ?_
      rintro e w5 ⟨rfl, hb5⟩
      have HBX5 := Lib.hid (HBA.out.below hb5)
      obtain ⟨N, hN⟩ : ∃ N, (Tm.mk 8 a ⟨#[]⟩ 0 (.mk 0 []) (.mk 0 []) []).arity = N := ⟨_, rfl⟩
      have hr : -1 ≤ N ∧ N ≤ 3 := hN ▸ arK_range _ _ (opAr_range _)
      obtain ⟨hr0, hr3⟩ := hr
      rw [hN]
      clear hN hb5 g0 g1 g2 g3 g4 g5 g6 g7 g8 gz
      go_wp2_with fail
      go_loopw [7] (fun i wr => ∃ (j : Nat) (ts : List Tm) (p : Option Addr) (c : Nat) (xs : List Value), ((j : Int) ≤ N ∨ j = 0) ∧ i = .int .i64 j ∧ ts.length = j ∧ wtS ts ≤ j * (m + 1) ∧ BoxM w b w2.heap.size wr (.mk 8 a ⟨#[]⟩ 0 (.mk 0 []) (.mk 0 []) ts) none 0 none 0 p c xs) (fun i _ => N.toNat - (intOf i).toNat)
      case atStart => exact ⟨0, [], none, 0, [], Or.inr rfl, rfl, rfl, by simp [wtS], HBX5.out⟩
      case round =>
        obtain ⟨j, ts, p, c, xs, hj, rfl, hl, hw, hb⟩ := hrel
        obtain ⟨⟨g0, g1, g2, g3, g4, g5, g6, g7, g8⟩, gz⟩ := hb.facts
        have HB := Lib.hid hb
        have HWT := Lib.hid hw
        have HL := Lib.hid hl
        have hl3 : ts.length ≤ 3 := by omega
        have j0 : (0 : Int) ≤ (j : Int) := Int.natCast_nonneg _
        have j3 : j ≤ 3 := by omega
        clear hw hl
        by_cases hlt : (j : Int) < N
        · have hbd := hb.below (Below.refl _ wr).drew
          have HBD := Lib.hid hbd
          have hiw := HIH.out b wr.drew hbd.rdy.cur
          rw [← HWR.out] at hiw
          have HIW := Lib.hid hiw
          clear hiw
          clear hb hbd
          go_wp2_with fail
          go_region_law (first
            | (refine step_app1 (w0 := w6) (v := .slice p ts.length c) (n := ts.length) (xs := xs) rfl (.tmp 65) (.tmp 70) rfl Tryz.underlying27 hi hz0 hz1 hz2 rfl (by decide) rfl HB6.out.new.row.own _ rfl (by simp) rfl (fun u hu => by simp at hu; rcases hu with rfl | rfl | rfl | rfl | rfl | rfl | rfl | rfl | rfl <;> rfl) (by unfold maxLen; omega) (by omega) (by have := HB6.out.bxlt; have := HB6.out.lt; omega) ?_; intro w' g2' cap2 hA; have d6b := (hA.kept w2.heap.size HB6.out.bxlt (fun e => (HB6.out.new.row.blk _ e).2 rfl)).1.trans HB6.out.box; have d6 : w'.cell? ⟨w2.heap.size, 8, none⟩ = some (.slice p ts.length c) := cell_of_blk d6b 8; have d6z := unfrozen_of_blk d6b)
            | (go_simp; go_at_call 44; refine HIW.out.mono ?_; rintro e w6 ⟨t6, tp6, tc6, rp6, rc6, p6, c6, xs6, rfl, hw6, hN6, hc6, hg6⟩; have hb6 := HBD.out.step hbw hc6 hg6; have HB6 := Lib.hid hb6; have d4 : w6.cell? ⟨w2.heap.size, 8, none⟩ = some (.slice p ts.length c) := hb6.facts.1.2.2.2.2.2.2.2.2; have d4z := hb6.facts.2; have d5 := fun (o : Obj) => al_cell d4 o; clear hb6))
          all_goals
            have hown : ∀ z, wr.drew.heap.size ≤ z → (Value.slice p ts.length c).ownBlock ≠ some z := fun z hz e => by
              have := (HBD.out.new.row.own.lt z e).2
              omega
            have hx := (hN6.tm.mono (C' := fun z => InBox w w2.heap.size z ∧ (Value.slice p ts.length c).ownBlock ≠ some z) (fun z hz _ => ⟨InBox.of HBD.out.lt HBD.out.bxlt hz, hown z hz⟩)).ms
            have HBZ := Lib.hid (HB6.out.app hbw hA hx)
            have HWZ := Lib.hid (show wtS (ts ++ [t6]) ≤ (j + 1) * (m + 1) by
              have := HWT.out
              rw [wtS_append, Nat.add_mul]
              simp only [wtS]
              omega)
            clear hx hown hA hw6 hN6 hc6 hg6 d4 d4z d5 d6b d6 d6z g0 g1 g2 g3 g4 g5 g6 g7 g8 gz
            go_wp2_with fail
            go_roundw
            case rel => exact ⟨j + 1, ts ++ [t6], some ⟨g2', 0, none⟩, cap2, _, Or.inl (by omega), by go_num, by simp [HL.out], HWZ.out, HBZ.out⟩
            case measure => simp [intOf]; omega
        · obtain ⟨⟨x0, x1, x2, x3, x4, x5, x6, x7, x8⟩, xz⟩ := hb.rdy.facts
          clear hb
          go_wp2_with fail
          refine bodyPost_ret (v := tmV (.mk 8 a ⟨#[]⟩ 0 (.mk 0 []) (.mk 0 []) ts) none 0 none 0 p c) ?_ rfl ?_
          · rw [results_cell1 rfl]
            go_simp
            all_goals (repeat' apply And.intro) <;> rfl
          · have := HB.out.fin hbw (wt_of (k := 8) (n := 0) (a := a) (o := ⟨#[]⟩) (ty := (.mk 0 [])) (res := (.mk 0 [])) (ts := ts) (m := m) HSa.out (by decide) (by simp [Ty.nodes, nodesS]) (by simp [Ty.nodes, nodesS]) j3 HWT.out)
            rw [setN9] at this
            exact this
    · skip
      have hp3 := pickS_litG [⟨#[120]⟩, ⟨#[121]⟩, ⟨#[102]⟩] 3 b _ #[.string ⟨#[120]⟩, .string ⟨#[121]⟩, .string ⟨#[102]⟩] rfl (by decide) (by decide) rfl HBX0.out.rdy.cur
      rw [World.size_alloc] at hp3
      have HP3 := Lib.hid hp3
      clear hp3
      go_wp2_with fail
      refine HP3.out.mono ?_
      rintro e w3 ⟨a, ha, rfl, hc3, hg3⟩
      have HSa := Lib.hid (show a.size ≤ 1 by simp at ha; rcases ha with rfl | rfl | rfl <;> decide)
      have hbx3 := HBX0.out.step hbw hc3 hg3
      have HBX3 := Lib.hid hbx3
      clear ha hc3 hg3 HP3
      obtain ⟨⟨g0, g1, g2, g3, g4, g5, g6, g7, g8⟩, gz⟩ := hbx3.facts
      clear hbx3
      have HBM := Lib.hid (HBX3.out.setName hbw a)
      go_wp2_with fail
      refine (draw_any 2 (by decide) (by decide) b _ HBM.out.rdy.cur).mono ?_
      rintro e w4 ⟨v4, u, rfl, hn4, hn, hc4, hg4⟩
      obtain ⟨s4, rfl, hs4⟩ := hn.tt
      obtain ⟨q4, d4, rfl⟩ := hs4.form
      have hbx4 := HBM.out.step hbw hc4 hg4
      have HBX4 := Lib.hid hbx4
      have HT4 := Lib.hid (hs4.mono (C' := fun z => InBox w w2.heap.size z ∧ (Value.slice none 0 0).ownBlock ≠ some z) (fun z hz _ => ⟨InBox.of HBM.out.lt HBM.out.bxlt hz, by simp [Value.ownBlock]⟩))
      have HN4 := Lib.hid hn4
      clear hn4 hn hs4 hc4 hg4
      clear g0 g1 g2 g3 g4 g5 g6 g7 g8 gz
      obtain ⟨⟨g0, g1, g2, g3, g4, g5, g6, g7, g8⟩, gz⟩ := hbx4.facts
      clear hbx4
      have HBO := Lib.hid (HBX4.out.setTy hbw HT4.out)
      have hp6 := pickS_litG [⟨#[122]⟩, ⟨#[119]⟩] 2 b _ #[.string ⟨#[122]⟩, .string ⟨#[119]⟩] rfl (by decide) (by decide) rfl HBO.out.rdy.cur
      rw [World.size_setCell, World.size_setCell] at hp6
      have HP6 := Lib.hid hp6
      clear hp6
      go_wp2_with fail
      refine HP6.out.mono ?_
      rintro e w6 ⟨o, ho, rfl, hc6, hg6⟩
      have HSo := Lib.hid (show o.size ≤ 1 by simp at ho; rcases ho with rfl | rfl <;> decide)
      have hbx6 := HBO.out.step hbw hc6 hg6
      have HBX6 := Lib.hid hbx6
      clear ho hc6 hg6 HP6
      clear g0 g1 g2 g3 g4 g5 g6 g7 g8 gz
      obtain ⟨⟨g0, g1, g2, g3, g4, g5, g6, g7, g8⟩, gz⟩ := hbx6.facts
      clear hbx6
      have HBP := Lib.hid (HBX6.out.setOther hbw o)
      go_wp2_with fail
      refine (draw_any 2 (by decide) (by decide) b _ HBP.out.rdy.cur).mono ?_
      rintro e w7 ⟨v7, x, rfl, hn7, hn, hc7, hg7⟩
      obtain ⟨s7, rfl, hs7⟩ := hn.tt
      obtain ⟨q7, d7, rfl⟩ := hs7.form
      have hbx7 := HBP.out.step hbw hc7 hg7
      have HBX7 := Lib.hid hbx7
      have HT7 := Lib.hid (hs7.mono (C' := fun z => InBox w w2.heap.size z ∧ (Value.slice none 0 0).ownBlock ≠ some z) (fun z hz _ => ⟨InBox.of HBP.out.lt HBP.out.bxlt hz, by simp [Value.ownBlock]⟩))
      have HN7 := Lib.hid hn7
      clear hn7 hn hs7 hc7 hg7
      clear g0 g1 g2 g3 g4 g5 g6 g7 g8 gz
      obtain ⟨⟨g0, g1, g2, g3, g4, g5, g6, g7, g8⟩, gz⟩ := hbx7.facts
      clear hbx7
      have HBA := Lib.hid (HBX7.out.setRes hbw HT7.out)
      go_wp2_with fail
      refine (arityS_any (.mk 9 a o 0 u x []) q4 d4 q7 d7 none 0 _).mono ?_
      rintro e w5 ⟨rfl, hb5⟩
      have HBX5 := Lib.hid (HBA.out.below hb5)
      obtain ⟨N, hN⟩ : ∃ N, (Tm.mk 9 a o 0 u x []).arity = N := ⟨_, rfl⟩
      have hr : -1 ≤ N ∧ N ≤ 3 := hN ▸ arK_range _ _ (opAr_range _)
      obtain ⟨hr0, hr3⟩ := hr
      rw [hN]
      clear hN hb5 g0 g1 g2 g3 g4 g5 g6 g7 g8 gz
      go_wp2_with fail
      go_loopw [7] (fun i wr => ∃ (j : Nat) (ts : List Tm) (p : Option Addr) (c : Nat) (xs : List Value), ((j : Int) ≤ N ∨ j = 0) ∧ i = .int .i64 j ∧ ts.length = j ∧ wtS ts ≤ j * (m + 1) ∧ BoxM w b w2.heap.size wr (.mk 9 a o 0 u x ts) q4 d4 q7 d7 p c xs) (fun i _ => N.toNat - (intOf i).toNat)
      case atStart => exact ⟨0, [], none, 0, [], Or.inr rfl, rfl, rfl, by simp [wtS], HBX5.out⟩
      case round =>
        obtain ⟨j, ts, p, c, xs, hj, rfl, hl, hw, hb⟩ := hrel
        obtain ⟨⟨g0, g1, g2, g3, g4, g5, g6, g7, g8⟩, gz⟩ := hb.facts
        have HB := Lib.hid hb
        have HWT := Lib.hid hw
        have HL := Lib.hid hl
        have hl3 : ts.length ≤ 3 := by omega
        have j0 : (0 : Int) ≤ (j : Int) := Int.natCast_nonneg _
        have j3 : j ≤ 3 := by omega
        clear hw hl
        by_cases hlt : (j : Int) < N
        · have hbd := hb.below (Below.refl _ wr).drew
          have HBD := Lib.hid hbd
          have hiw := HIH.out b wr.drew hbd.rdy.cur
          rw [← HWR.out] at hiw
          have HIW := Lib.hid hiw
          clear hiw
          clear hb hbd
          go_wp2_with fail
          go_region_law (first
            | (refine step_app1 (w0 := w6) (v := .slice p ts.length c) (n := ts.length) (xs := xs) rfl (.tmp 65) (.tmp 70) rfl Tryz.underlying27 hi hz0 hz1 hz2 rfl (by decide) rfl HB6.out.new.row.own _ rfl (by simp) rfl (fun u hu => by simp at hu; rcases hu with rfl | rfl | rfl | rfl | rfl | rfl | rfl | rfl | rfl <;> rfl) (by unfold maxLen; omega) (by omega) (by have := HB6.out.bxlt; have := HB6.out.lt; omega) ?_; intro w' g2' cap2 hA; have d6b := (hA.kept w2.heap.size HB6.out.bxlt (fun e => (HB6.out.new.row.blk _ e).2 rfl)).1.trans HB6.out.box; have d6 : w'.cell? ⟨w2.heap.size, 8, none⟩ = some (.slice p ts.length c) := cell_of_blk d6b 8; have d6z := unfrozen_of_blk d6b)
            | (go_simp; go_at_call 44; refine HIW.out.mono ?_; rintro e w6 ⟨t6, tp6, tc6, rp6, rc6, p6, c6, xs6, rfl, hw6, hN6, hc6, hg6⟩; have hb6 := HBD.out.step hbw hc6 hg6; have HB6 := Lib.hid hb6; have d4 : w6.cell? ⟨w2.heap.size, 8, none⟩ = some (.slice p ts.length c) := hb6.facts.1.2.2.2.2.2.2.2.2; have d4z := hb6.facts.2; have d5 := fun (o : Obj) => al_cell d4 o; clear hb6))
          all_goals
            have hown : ∀ z, wr.drew.heap.size ≤ z → (Value.slice p ts.length c).ownBlock ≠ some z := fun z hz e => by
              have := (HBD.out.new.row.own.lt z e).2
              omega
            have hx := (hN6.tm.mono (C' := fun z => InBox w w2.heap.size z ∧ (Value.slice p ts.length c).ownBlock ≠ some z) (fun z hz _ => ⟨InBox.of HBD.out.lt HBD.out.bxlt hz, hown z hz⟩)).ms
            have HBZ := Lib.hid (HB6.out.app hbw hA hx)
            have HWZ := Lib.hid (show wtS (ts ++ [t6]) ≤ (j + 1) * (m + 1) by
              have := HWT.out
              rw [wtS_append, Nat.add_mul]
              simp only [wtS]
              omega)
            clear hx hown hA hw6 hN6 hc6 hg6 d4 d4z d5 d6b d6 d6z g0 g1 g2 g3 g4 g5 g6 g7 g8 gz
            go_wp2_with fail
            go_roundw
            case rel => exact ⟨j + 1, ts ++ [t6], some ⟨g2', 0, none⟩, cap2, _, Or.inl (by omega), by go_num, by simp [HL.out], HWZ.out, HBZ.out⟩
            case measure => simp [intOf]; omega
        · obtain ⟨⟨x0, x1, x2, x3, x4, x5, x6, x7, x8⟩, xz⟩ := hb.rdy.facts
          clear hb
          go_wp2_with fail
          refine bodyPost_ret (v := tmV (.mk 9 a o 0 u x ts) q4 d4 q7 d7 p c) ?_ rfl ?_
          · rw [results_cell1 rfl]
            go_simp
            all_goals (repeat' apply And.intro) <;> rfl
          · have := HB.out.fin hbw (wt_of (k := 9) (n := 0) (a := a) (o := o) (ty := u) (res := x) (ts := ts) (m := m) HSa.out HSo.out HN4.out HN7.out j3 HWT.out)
            rw [setN9] at this
            exact this
    · have e4 : (y == 4) = false := by rw [beq_eq_false_iff_ne]; omega
      have e6 : (y == 6) = false := by rw [beq_eq_false_iff_ne]; omega
      have e8 : (y == 8) = false := by rw [beq_eq_false_iff_ne]; omega
      have e9 : (y == 9) = false := by rw [beq_eq_false_iff_ne]; omega
      have HBA := Lib.hid (HBX0.out)
      go_wp2_with fail
      refine (arityS_any (.mk y ⟨#[]⟩ ⟨#[]⟩ 0 (.mk 0 []) (.mk 0 []) []) none 0 none 0 none 0 _).mono ?_
      rintro e w5 ⟨rfl, hb5⟩
      have HBX5 := Lib.hid (HBA.out.below hb5)
      obtain ⟨N, hN⟩ : ∃ N, (Tm.mk y ⟨#[]⟩ ⟨#[]⟩ 0 (.mk 0 []) (.mk 0 []) []).arity = N := ⟨_, rfl⟩
      have hr : -1 ≤ N ∧ N ≤ 3 := hN ▸ arK_range _ _ (opAr_range _)
      obtain ⟨hr0, hr3⟩ := hr
      rw [hN]
      clear hN hb5
      go_wp2_with fail
      go_loopw [7] (fun i wr => ∃ (j : Nat) (ts : List Tm) (p : Option Addr) (c : Nat) (xs : List Value), ((j : Int) ≤ N ∨ j = 0) ∧ i = .int .i64 j ∧ ts.length = j ∧ wtS ts ≤ j * (m + 1) ∧ BoxM w b w2.heap.size wr (.mk y ⟨#[]⟩ ⟨#[]⟩ 0 (.mk 0 []) (.mk 0 []) ts) none 0 none 0 p c xs) (fun i _ => N.toNat - (intOf i).toNat)
      case atStart => exact ⟨0, [], none, 0, [], Or.inr rfl, rfl, rfl, by simp [wtS], HBX5.out⟩
      case round =>
        obtain ⟨j, ts, p, c, xs, hj, rfl, hl, hw, hb⟩ := hrel
        obtain ⟨⟨g0, g1, g2, g3, g4, g5, g6, g7, g8⟩, gz⟩ := hb.facts
        have HB := Lib.hid hb
        have HWT := Lib.hid hw
        have HL := Lib.hid hl
        have hl3 : ts.length ≤ 3 := by omega
        have j0 : (0 : Int) ≤ (j : Int) := Int.natCast_nonneg _
        have j3 : j ≤ 3 := by omega
        clear hw hl
        by_cases hlt : (j : Int) < N
        · have hbd := hb.below (Below.refl _ wr).drew
          have HBD := Lib.hid hbd
          have hiw := HIH.out b wr.drew hbd.rdy.cur
          rw [← HWR.out] at hiw
          have HIW := Lib.hid hiw
          clear hiw
          clear hb hbd
          go_wp2_with fail
          go_region_law (first
            | (refine step_app1 (w0 := w6) (v := .slice p ts.length c) (n := ts.length) (xs := xs) rfl (.tmp 65) (.tmp 70) rfl Tryz.underlying27 hi hz0 hz1 hz2 rfl (by decide) rfl HB6.out.new.row.own _ rfl (by simp) rfl (fun u hu => by simp at hu; rcases hu with rfl | rfl | rfl | rfl | rfl | rfl | rfl | rfl | rfl <;> rfl) (by unfold maxLen; omega) (by omega) (by have := HB6.out.bxlt; have := HB6.out.lt; omega) ?_; intro w' g2' cap2 hA; have d6b := (hA.kept w2.heap.size HB6.out.bxlt (fun e => (HB6.out.new.row.blk _ e).2 rfl)).1.trans HB6.out.box; have d6 : w'.cell? ⟨w2.heap.size, 8, none⟩ = some (.slice p ts.length c) := cell_of_blk d6b 8; have d6z := unfrozen_of_blk d6b)
            | (go_simp; go_at_call 44; refine HIW.out.mono ?_; rintro e w6 ⟨t6, tp6, tc6, rp6, rc6, p6, c6, xs6, rfl, hw6, hN6, hc6, hg6⟩; have hb6 := HBD.out.step hbw hc6 hg6; have HB6 := Lib.hid hb6; have d4 : w6.cell? ⟨w2.heap.size, 8, none⟩ = some (.slice p ts.length c) := hb6.facts.1.2.2.2.2.2.2.2.2; have d4z := hb6.facts.2; have d5 := fun (o : Obj) => al_cell d4 o; clear hb6))
          all_goals
            have hown : ∀ z, wr.drew.heap.size ≤ z → (Value.slice p ts.length c).ownBlock ≠ some z := fun z hz e => by
              have := (HBD.out.new.row.own.lt z e).2
              omega
            have hx := (hN6.tm.mono (C' := fun z => InBox w w2.heap.size z ∧ (Value.slice p ts.length c).ownBlock ≠ some z) (fun z hz _ => ⟨InBox.of HBD.out.lt HBD.out.bxlt hz, hown z hz⟩)).ms
            have HBZ := Lib.hid (HB6.out.app hbw hA hx)
            have HWZ := Lib.hid (show wtS (ts ++ [t6]) ≤ (j + 1) * (m + 1) by
              have := HWT.out
              rw [wtS_append, Nat.add_mul]
              simp only [wtS]
              omega)
            clear hx hown hA hw6 hN6 hc6 hg6 d4 d4z d5 d6b d6 d6z g0 g1 g2 g3 g4 g5 g6 g7 g8 gz
            go_wp2_with fail
            go_roundw
            case rel => exact ⟨j + 1, ts ++ [t6], some ⟨g2', 0, none⟩, cap2, _, Or.inl (by omega), by go_num, by simp [HL.out], HWZ.out, HBZ.out⟩
            case measure => simp [intOf]; omega
        · obtain ⟨⟨x0, x1, x2, x3, x4, x5, x6, x7, x8⟩, xz⟩ := hb.rdy.facts
          clear hb
          go_wp2_with fail
          refine bodyPost_ret (v := tmV (.mk y ⟨#[]⟩ ⟨#[]⟩ 0 (.mk 0 []) (.mk 0 []) ts) none 0 none 0 p c) ?_ rfl ?_
          · rw [results_cell1 rfl]
            go_simp
            all_goals (repeat' apply And.intro) <;> rfl
          · have := HB.out.fin hbw (wt_of (k := y) (n := 0) (a := ⟨#[]⟩) (o := ⟨#[]⟩) (ty := (.mk 0 [])) (res := (.mk 0 [])) (ts := ts) (m := m) (by decide) (by decide) (by simp [Ty.nodes, nodesS]) (by simp [Ty.nodes, nodesS]) j3 HWT.out)
            rw [setN9] at this
            exact this
end Go.Proofs.YtjobmgbchpoheaaGreatDoor
namespace Go.Proofs.YtjobmgbchpoheaaGreatDoor
open Go Go.RowKit

set_option maxRecDepth 100000 in
set_option maxHeartbeats 2000000 in
theorem anyM_one (b : Nat) (w : World) (hc : Cur w b) : Calls Tryz.prog 44 #[.pointer (some ⟨b, 0, none⟩), .int .i64 1] w (DrawM 1 b w) := by
  have hbw := hc.lt
  have HR0 := Lib.hid (RdyM.start hc)
  clear hc
  go_enter Tryz.func44, Tryz.ntmps44
  go_wp2_with fail
  refine (leafM_any b _ HR0.out.cur).mono ?_
  rintro e w2 ⟨k, s, n, rfl, hs, hc2, hg2⟩
  have hr2 := HR0.out.step hbw hc2 hg2
  have HR2 := Lib.hid hr2
  obtain ⟨⟨g0, g1, g2, g3, g4, g5, g6, g7, g8⟩, gz⟩ := hr2.facts
  clear hr2 hc2 hg2
  go_wp2_with fail
  refine bodyPost_ret (v := leafV k s n) ?_ rfl ?_
  · rw [results_cell1 rfl]
    go_simp
  · have := leaf_draw (m := 1) HR2.out hbw k s n (by omega)
    rw [setN9] at this
    exact this
theorem DrawM.mono {m m' b : Nat} {w w' : World} {e : Ending} (h : DrawM m b w e w') (hm : m ≤ m') : DrawM m' b w e w' := by
  obtain ⟨t, tp, tc, rp, rc, p, c, xs, h1, h2, h3⟩ := h
  exact ⟨t, tp, tc, rp, rc, p, c, xs, h1, Nat.le_trans h2 hm, h3⟩
theorem anyM_any (D : Int) (h1 : 1 ≤ D) (h4 : D ≤ 4) (b : Nat) (w : World) (hc : Cur w b) : Calls Tryz.prog 44 #[.pointer (some ⟨b, 0, none⟩), .int .i64 D] w (DrawM 144 b w) := by
  have s2 := fun b w (hc : Cur w b) => anyM_step 1 2 (by decide) (by decide) (by decide) anyM_one b w hc
  have s3 := fun b w (hc : Cur w b) => anyM_step 12 3 (by decide) (by decide) (by decide) s2 b w hc
  have s4 := fun b w (hc : Cur w b) => anyM_step 45 4 (by decide) (by decide) (by decide) s3 b w hc
  rcases (show D = 1 ∨ D = 2 ∨ D = 3 ∨ D = 4 by omega) with rfl | rfl | rfl | rfl
  · exact (anyM_one b w hc).mono fun _ _ h => h.mono (by decide)
  · exact (s2 b w hc).mono fun _ _ h => h.mono (by decide)
  · exact (s3 b w hc).mono fun _ _ h => h.mono (by decide)
  · exact (s4 b w hc).mono fun _ _ h => h.mono (by decide)
end Go.Proofs.YtjobmgbchpoheaaGreatDoor
