/-
  The contracts of the laws' toTyping and toTypingS: the same context, in rows of the call's own.
-/
import Derived.Test.YteoeefmdfalnjaaCxA
import Derived.Test.YteoeefmdfalnjaaGen1
namespace Go.Proofs.Yteoeefmdfalnjaa
open Go Go.RowKit

theorem infoTg : (Try.prog.info? 43).map (fun i => (i.zero, i.size, i.bytes)) = some (some (.agg #[.string ⟨#[]⟩, .int .i64 0, .slice none 0 0, .int .i64 0]), 4, 56) := by kernel_rfl
set_option maxRecDepth 100000 in
set_option maxHeartbeats 2000000 in
theorem toC_of {C : Nat → Prop} {x : Tg} {p : Option Addr} {c : Nat} {w : World} (hT : TS w C x.ty.args (.slice p x.ty.args.length c)) (hn : nodesS x.ty.args ≤ 1048576) :
    Calls Try.prog 18 #[tgV x p c] w (NewC x w) := by
  obtain ⟨⟨k0, k1, k2⟩, hsz, hbl⟩ := chain3 w (.cells (tgC x p c) 37) (.cells #[.string ⟨#[]⟩, .int .i64 0, .slice none 0 0, .int .i64 0] 43)
    (.cells #[.string x.nm, .int .i64 0, .slice none 0 0, .int .i64 0] 43)
  have HT := Lib.hid hT
  have HK0 := Lib.hid k0
  have HK1 := Lib.hid k1
  have HK2 := Lib.hid k2
  have HSZ := Lib.hid hsz
  have HBL := Lib.hid hbl
  clear hT k0 k1 k2 hsz hbl
  go_enter Try.func18, Try.ntmps18
  go_wp2_with fail
  refine (toT_any (C := C) (t := x.ty) (v := .agg #[.int .i64 x.ty.kind, .slice p x.ty.args.length c]) ⟨_, rfl, HT.out.keep HBL.out⟩ hn).mono ?_
  rintro e w1 ⟨v1, rfl, ⟨s1, rfl, ho1⟩, hb1⟩
  obtain ⟨p1, c1, rfl⟩ := ho1.form
  have hb1s := hb1.size
  rw [HSZ.out] at hb1 hb1s ho1
  have q0 := (hb1.block w.heap.size (by omega)).trans HK0.out
  have q1 := (hb1.block (w.heap.size + 1) (by omega)).trans HK1.out
  have q2 := (hb1.block (w.heap.size + 1 + 1) (by omega)).trans HK2.out
  obtain ⟨x0, x1, x2, x3⟩ := Bx4.of q0
  have y0 : w1.cell? ⟨w.heap.size + 1 + 1, 0, none⟩ = some (.string x.nm) := cell_of_blk q2 0
  have y1 : w1.cell? ⟨w.heap.size + 1 + 1, 1, none⟩ = some (.int .i64 0) := cell_of_blk q2 1
  have y2 : w1.cell? ⟨w.heap.size + 1 + 1, 2, none⟩ = some (.slice none 0 0) := cell_of_blk q2 2
  have y3 : w1.cell? ⟨w.heap.size + 1 + 1, 3, none⟩ = some (.int .i64 0) := cell_of_blk q2 3
  have z0 : w1.cell? ⟨w.heap.size + 1, 0, none⟩ = some (.string ⟨#[]⟩) := cell_of_blk q1 0
  have z1 : w1.cell? ⟨w.heap.size + 1, 1, none⟩ = some (.int .i64 0) := cell_of_blk q1 1
  have z2 : w1.cell? ⟨w.heap.size + 1, 2, none⟩ = some (.slice none 0 0) := cell_of_blk q1 2
  have z3 : w1.cell? ⟨w.heap.size + 1, 3, none⟩ = some (.int .i64 0) := cell_of_blk q1 3
  have yz := unfrozen_of_blk q2
  have zz := unfrozen_of_blk q1
  have HO := Lib.hid ho1
  have HB1 := Lib.hid (HBL.out.trans (hb1.mono (by omega)))
  clear q0 q1 q2 ho1 hb1
  go_wp2_with fail
  refine bodyPost_ret (v := tgV x p1 c1) ?_ rfl ?_
  · rw [results_cell1 rfl]
    go_simp
  · refine ⟨_, rfl, ⟨p1, c1, rfl, OS.mono (OS.stays HO.out ?_) (fun z hz => ⟨by omega, ?_⟩)⟩, ?_⟩
    · iterate 7 (refine Stays.trans ?_ (setCell_stays _ _ _ _ _ (by omega)))
      exact Stays.refl _ _
    · have := hz.2
      simp [World.setCell]
      omega
    iterate 7 (refine Below.setCell ?_ (by dsimp only; omega) _)
    exact HB1.out

theorem setN4 (w : World) (b o : Nat) (v0 v1 v2 v3 : Value) : setN w b o [v0, v1, v2, v3] = (((w.setCell ⟨b, o, none⟩ v0).setCell ⟨b, o + 1, none⟩ v1).setCell ⟨b, o + 2, none⟩ v2).setCell ⟨b, o + 3, none⟩ v3 := rfl
set_option maxRecDepth 100000 in
set_option maxHeartbeats 2000000 in
/-- THE LAWS' toTypingS, AT EVERY CONTEXT. -/
theorem toCS_any {C : Nat → Prop} {L : List Tg} {v : Value} {w : World} (h : DM w C (cxD L) v) (hn : wtC L ≤ 1048576) : Calls Try.prog 7 #[v] w (NewCS L w) := by
  obtain ⟨i0, hi, hz0, hz1, hz2⟩ := info_parts infoTg
  obtain ⟨q, d, rfl⟩ := h.form
  have hlen := h.len.1
  have hge := wtC_ge L
  have HH := Lib.hid h
  clear h
  go_enter Try.func7, Try.ntmps7
  go_wp2_with (at_make; refine wpList_make_full _ rfl _ _ 25 rfl w.heap.size 43 i0 _ 4 Try.underlying25 hi hz0 hz1 .i64 .i64 _ _ L.length rfl rfl rfl rfl ?c1 ?c2 ?c3 ?_)
  case c1 => rw [hz2]; omega
  case c2 => unfold maxLen; omega
  case c3 => exact Nat.le_refl _
  intro w1 hown0 hg
  have hb1 : Below w.heap.size w w1 := (Below.refl _ _).grown hg (Nat.le_refl _) (fun k h => by cases h)
  have HO := Lib.hid (FilD.start (ds := flatCx L) hown0)
  clear hown0 hg
  go_wp2_with fail
  go_loopw [4] (fun i wr => ∃ k : Nat, k ≤ L.length ∧ i = .int .i64 k ∧ FilD wr w.heap.size 43 4 L.length L.length (flatCx L) k ∧ Below w.heap.size w wr) (fun i _ => L.length - (intOf i).toNat)
  case atStart => exact ⟨0, Nat.zero_le _, rfl, HO.out, hb1⟩
  case round =>
    obtain ⟨k, hk, rfl, hfill, hbr⟩ := hrel
    have HFI := Lib.hid hfill
    have HB := Lib.hid hbr
    clear hb1 hfill hbr
    by_cases hlk : k < L.length
    · obtain ⟨b, o, p, c, rfl, hC, hb, h4, hT⟩ := cx_part HH.out k hlk
      obtain ⟨g0, g1, g2, g3⟩ := h4 wr (.of_below HB.out)
      have hwk := wtC_at L k hlk
      have HC := Lib.hid (toC_of (C := C) (x := L[k]) (hT.stays (.of_below HB.out)) (by unfold Tg.wt at hwk; omega))
      have i0 : (0 : Int) ≤ (k : Int) := Int.natCast_nonneg _
      have i1 : (k : Int) < (L.length : Int) := by omega
      clear hC hb h4 hT hwk
      go_wp2_with fail
      refine HC.out.mono ?_
      rintro e w2 ⟨v, rfl, ⟨p2, c2, rfl, hos⟩, hb2⟩
      obtain ⟨hrow, hgo⟩ := HFI.out.next hb2 hlk L[k].ds_len (fun i hi => flatCx_at L k i hlk hi) (OSt4 hos)
      obtain ⟨q0, x0⟩ := hrow 0 (by omega)
      obtain ⟨q1, x1⟩ := hrow 1 (by omega)
      obtain ⟨q2, x2⟩ := hrow 2 (by omega)
      obtain ⟨q3, x3⟩ := hrow 3 (by omega)
      rw [Nat.add_zero] at x0
      have z1 := fun i => HFI.out.frz hb2 i
      have hb3 := (HB.out.trans (hb2.mono HB.out.size)).trans (setN_below (tgL L[k] p2 c2) w.heap.size w2 w.heap.size (k * 4) (Nat.le_refl _))
      rw [setN4] at hgo hb3
      have HN := Lib.hid hgo
      have HB2 := Lib.hid hb3
      clear hgo hos hb2 hb3 hrow g0 g1 g2 g3
      go_wp2_with fail
      go_roundw
      case rel => exact ⟨k + 1, by omega, by go_num, HN.out, HB2.out⟩
      case measure => simp [intOf]; omega
    · obtain rfl : k = L.length := by omega
      go_wp2_with fail
      go_ret
      exact ⟨_, rfl, HFI.out.full (flatCx_len L) (by unfold maxLen; omega), HB.out⟩
#print axioms toCS_any
end Go.Proofs.Yteoeefmdfalnjaa

