/-
  Several texts of the proof in one (each says below what it holds): LvS FreeS RsS TmRow Erase NodesT GrowA GrowE SpecErase SpecCopy EraseTypeLaw DrawT1.
-/
import Derived.Test.YtingnigiijdllaaDoorCq4
import Derived.Test.YtingnigiijdllaaDoorCq2
import Derived.Test.YtingnigiijdllaaDoorCq1
import Derived.Test.YtingnigiijdllaaDoorCq3
import Derived.RangeFuncNested
import Derived.RangeFuncBound
import Derived.RangeFuncCalls
import Derived.Shelf.Abstract
import Derived.IntWalk
import Derived.Shelf.RegionOpen
import Derived.WalkKit
import Derived.TacticsInMore
import Derived.LoopNIn
import Derived.LoopIn
import Derived.Sort.LoopGhostIn
import Derived.Lib.SmallJoins
import Derived.Deep.RegionHeldLaw
import Derived.Deep.RegionWith
set_option linter.unusedVariables false
set_option linter.unusedSimpArgs false
namespace Go.Proofs.YtingnigiijdllaaDoor
open Go Go.RowKit

variable {C : Nat → Prop}

set_option maxRecDepth 100000 in
set_option maxHeartbeats 1000000 in
theorem nextS_any (t : Tm) (tp : Option Addr) (tc : Nat) (rp : Option Addr) (rc : Nat) (p : Option Addr) (c : Nat) (n : Int) (w : World) :
    Calls Tryd.prog 74 #[tmV t tp tc rp rc p c, .int .i64 n] w fun e w' => e = .returned (.int .i64 (nextL t.kind n)) ∧ Below w.heap.size w w' := by
  have hn1 : t.kind = 10 → nextL t.kind n = wrap64 (n + 1) := fun h => by unfold nextL; rw [if_pos h]
  have hn2 : t.kind = 11 → nextL t.kind n = wrap64 (n - 1) := fun h => by unfold nextL; rw [if_neg (by omega), if_pos h]
  have hn3 : ¬ t.kind = 10 → ¬ t.kind = 11 → nextL t.kind n = n := fun h h2 => by unfold nextL; rw [if_neg h, if_neg h2]
  have HB0 := Lib.hid (al_below w (.cells (tmC t tp tc rp rc p c) 35))
  generalize nextL t.kind n = r at hn1 hn2 hn3 ⊢
  obtain ⟨g0, _, _, _, _, _, _, _, _⟩ := Bx9.new w t tp tc rp rc p c 35
  by_cases h1 : t.kind = 10
  · obtain rfl := hn1 h1
    have t1 : (t.kind == 10) = true := by simp [h1]
    clear hn1 hn2 hn3 h1
    go_enter Tryd.func74, Tryd.ntmps74
    go_wp2_with fail
    go_ret
    exact ⟨rfl, HB0.out⟩
  · by_cases h2 : t.kind = 11
    · obtain rfl := hn2 h2
      have t1 : (t.kind == 10) = false := by simp [h1]
      have t2 : (t.kind == 11) = true := by simp [h2]
      clear hn1 hn2 hn3 h1 h2
      go_enter Tryd.func74, Tryd.ntmps74
      go_wp2_with fail
      go_ret
      exact ⟨rfl, HB0.out⟩
    · obtain rfl := hn3 h1 h2
      have t1 : (t.kind == 10) = false := by simp [h1]
      have t2 : (t.kind == 11) = false := by simp [h2]
      clear hn1 hn2 hn3 h1 h2
      go_enter Tryd.func74, Tryd.ntmps74
      go_wp2_with fail
      go_ret
      exact ⟨rfl, HB0.out⟩
set_option maxRecDepth 100000 in
set_option maxHeartbeats 4000000 in
theorem l8Ok_any : ∀ (m : Nat) {t : Tm} {tp : Option Addr} {tc : Nat} {rp : Option Addr} {rc : Nat} {p : Option Addr} {c : Nat} (n : Int) (w : World), t.nodes ≤ m → TM' w C t tp tc rp rc p c → t.wt ≤ 2097152 → Calls Tryd.prog 49 #[tmV t tp tc rp rc p c, .int .i64 n] w (Tells (t.lvOk n) w)
  | 0, t, tp, tc, rp, rc, p, c, n, w, hm, hT, hn => by rw [t.nodes_eq] at hm; omega
  | m + 1, t, tp, tc, rp, rc, p, c, n, w, hm, hT, hn => by
    have HT := Lib.hid hT
    have HX0 := Lib.hid (Bx9.new w t tp tc rp rc p c 35)
    have HB0 := Lib.hid (al_below w (.cells (tmC t tp tc rp rc p c) 35))
    have hne := t.nodes_eq
    have hwe := t.wt_eq
    have hlen := wtS_ge t.args
    have HM := Lib.hid hm
    have HNE := Lib.hid hne
    have HWE := Lib.hid hwe
    have HWN := Lib.hid hn
    have HLE := Lib.hid ((t.lvOk_eq n).trans (and_congr_right fun _ => lvOkS_iff _ _))
    have hwa : wtS t.args ≤ 2097152 := by omega
    clear hT hne hwe hm hn
    go_enter Tryd.func49, Tryd.ntmps49
    go_wp2_with fail
    refine (in_any n 0 2 _).mono ?_
    rintro e w1 ⟨rfl, rfl⟩
    by_cases hin : 0 ≤ n ∧ n ≤ 2
    rotate_left
    · rw [decide_eq_false hin]
      have HIN := Lib.hid hin
      clear hin
      go_wp2_with fail
      go_ret
      exact ⟨false, by simp only [Bool.false_eq_true, false_iff]; exact fun h => HIN.out (HLE.out.1 h).1, rfl, HB0.out⟩
    rw [decide_eq_true hin]
    have HIN := Lib.hid hin
    clear hin
    go_wp2_with fail
    go_loopw [5] (fun i wr => ∃ (k : Nat), k ≤ t.args.length ∧ i = .int .i64 k ∧ (∀ x ∈ t.args.take k, (x.lvOk (nextL t.kind n))) ∧ Below (w.alloc (.cells (tmC t tp tc rp rc p c) 35)).heap.size (w.alloc (.cells (tmC t tp tc rp rc p c) 35)) wr) (fun i _ => t.args.length - (intOf i).toNat)
    case atStart => exact ⟨0, Nat.zero_le _, rfl, by simp, Below.refl _ _⟩
    case round =>
      obtain ⟨k, hk, rfl, hts, hbr⟩ := hrel
      have HTS := Lib.hid hts
      have HBR := Lib.hid hbr
      have HBW := Lib.hid (HB0.out.trans (hbr.mono HB0.out.size))
      obtain ⟨d0, d1, d2, d3, d4, d5, d6, d7, d8⟩ := HX0.out.keep hbr
      clear hbr hts
      by_cases hlk : k < t.args.length
      · obtain ⟨b, o, tp2, tc2, rp2, rc2, p2, c2, rfl, hC, hb, h9, hP⟩ := tm_part HT.out.args k hlk
        obtain ⟨g0, g1, g2, g3, g4, g5, g6, g7, g8⟩ := h9 wr (.of_below HBW.out)
        have n4 := nodesM_at t.args k hlk
        have n5 := wtS_at t.args k hlk
        have hmk : t.args[k].nodes ≤ m := by have := HM.out; have := HNE.out; omega
        have hi0 : (0 : Int) ≤ (k : Int) := Int.natCast_nonneg _
        have hi1 : (k : Int) < (t.args.length : Int) := by omega
        have HC := Lib.hid (fun (W : World) (hb : Below wr.heap.size wr W) => l8Ok_any m (nextL t.kind n) W hmk (hP.stays (.of_below (HBW.out.trans (hb.mono HBW.out.size)))) (by omega))
        clear hC hb h9 hP n4 n5 hmk
        go_wp2_with fail
        go_region_held3 (fun w' => w'.cell? ⟨w.heap.size, 0, none⟩ = some (.int .i64 t.kind) ∧ w'.cell? ⟨w.heap.size, 1, none⟩ = some (.string t.name) ∧ w'.cell? ⟨w.heap.size, 2, none⟩ = some (.string t.other) ∧ w'.cell? ⟨w.heap.size, 3, none⟩ = some (.int .i64 t.n) ∧ w'.cell? ⟨w.heap.size, 4, none⟩ = some (.int .i64 t.ty.kind) ∧ w'.cell? ⟨w.heap.size, 5, none⟩ = some (.slice tp t.ty.args.length tc) ∧ w'.cell? ⟨w.heap.size, 6, none⟩ = some (.int .i64 t.res.kind) ∧ w'.cell? ⟨w.heap.size, 7, none⟩ = some (.slice rp t.res.args.length rc) ∧ w'.cell? ⟨w.heap.size, 8, none⟩ = some (.slice (some ⟨b, o, none⟩) t.args.length c) ∧ w'.cell? ⟨b, o + k * 9, none⟩ = some (.int .i64 t.args[k].kind) ∧ w'.cell? ⟨b, o + k * 9 + 1, none⟩ = some (.string t.args[k].name) ∧ w'.cell? ⟨b, o + k * 9 + 2, none⟩ = some (.string t.args[k].other) ∧ w'.cell? ⟨b, o + k * 9 + 3, none⟩ = some (.int .i64 t.args[k].n) ∧ w'.cell? ⟨b, o + k * 9 + 4, none⟩ = some (.int .i64 t.args[k].ty.kind) ∧ w'.cell? ⟨b, o + k * 9 + 5, none⟩ = some (.slice tp2 t.args[k].ty.args.length tc2) ∧ w'.cell? ⟨b, o + k * 9 + 6, none⟩ = some (.int .i64 t.args[k].res.kind) ∧ w'.cell? ⟨b, o + k * 9 + 7, none⟩ = some (.slice rp2 t.args[k].res.args.length rc2) ∧ w'.cell? ⟨b, o + k * 9 + 8, none⟩ = some (.slice p2 t.args[k].args.length c2) ∧ Below wr.heap.size wr w')
          (first
            | (go_keep; done)
            | exact ⟨d0, d1, d2, d3, d4, d5, d6, d7, d8, g0, g1, g2, g3, g4, g5, g6, g7, g8, (Below.refl _ _).drew⟩
            | exact keep18 hb7 (by assumption)
            | exact keep18 hb6 (by assumption))
          (first
            | (go_at_call 74; refine (nextS_any t tp tc rp rc (some ⟨b, o, none⟩) c n _).mono ?_; rintro e w6 ⟨rfl, hb6⟩)
            | (go_at_call 49; refine (HC.out _ ((Below.refl _ _).drew.trans hb6)).mono ?_; rintro e w7 ⟨r, hr, rfl, hb7⟩))
        rename_i hH
        have hb2 := hH.2.2.2.2.2.2.2.2.2.2.2.2.2.2.2.2.2.2
        have HB2 := Lib.hid (HBR.out.trans (hb2.mono HBR.out.size))
        clear hH hb6 hb7 g0 g1 g2 g3 g4 g5 g6 g7 g8
        have HR := Lib.hid hr
        clear hr hb2
        cases hr0 : r
        · have hnf : ¬ (t.args[k].lvOk (nextL t.kind n)) := fun h => by have := HR.out.2 h; rw [hr0] at this; cases this
          have HF := Lib.hid hnf
          clear hnf
          subst hr0
          go_wp2_with fail
          go_ret
          exact ⟨false, by simp only [Bool.false_eq_true, false_iff]; exact fun h => HF.out ((HLE.out.1 h).2 _ (List.getElem_mem hlk)), rfl, box_rest HB2.out⟩
        · have HF := Lib.hid (HR.out.1 hr0)
          subst hr0
          go_wp2_with fail
          go_roundw
          case rel => exact ⟨k + 1, by omega, by go_num, (take_all hlk).2 ⟨HTS.out, HF.out⟩, HB2.out⟩
          case measure => simp [intOf]; omega
      · obtain rfl : k = t.args.length := by omega
        have hall := HTS.out
        rw [List.take_length] at hall
        have HALL := Lib.hid hall
        clear hall
        go_wp2_with fail
        go_ret
        exact ⟨true, by simp only [true_iff]; exact HLE.out.2 ⟨HIN.out, HALL.out⟩, rfl, HBW.out⟩

set_option maxRecDepth 100000 in
set_option maxHeartbeats 4000000 in
theorem l8Made_any : ∀ (m : Nat) {t : Tm} {tp : Option Addr} {tc : Nat} {rp : Option Addr} {rc : Nat} {p : Option Addr} {c : Nat} (n : Int) (w : World), t.nodes ≤ m → TM' w C t tp tc rp rc p c → t.wt ≤ 2097152 → Calls Tryd.prog 50 #[tmV t tp tc rp rc p c, .int .i64 n] w (Tells (t.made n) w)
  | 0, t, tp, tc, rp, rc, p, c, n, w, hm, hT, hn => by rw [t.nodes_eq] at hm; omega
  | m + 1, t, tp, tc, rp, rc, p, c, n, w, hm, hT, hn => by
    have HT := Lib.hid hT
    have HX0 := Lib.hid (Bx9.new w t tp tc rp rc p c 35)
    have HB0 := Lib.hid (al_below w (.cells (tmC t tp tc rp rc p c) 35))
    have hne := t.nodes_eq
    have hwe := t.wt_eq
    have hlen := wtS_ge t.args
    have HM := Lib.hid hm
    have HNE := Lib.hid hne
    have HWE := Lib.hid hwe
    have HWN := Lib.hid hn
    have HLE := Lib.hid ((t.made_eq n).trans (and_congr_right fun _ => madeS_iff _ _))
    have hwa : wtS t.args ≤ 2097152 := by omega
    clear hT hne hwe hm hn
    go_enter Tryd.func50, Tryd.ntmps50
    obtain ⟨c0, _, _, _, _, _, _, _, _⟩ := HX0.out
    by_cases hin : t.kind = 11 ∧ n = 1
    · have t1 : (t.kind == 11) = true := by simp [hin.1]
      have t2 : (n == 1) = true := by simp [hin.2]
      have HIN := Lib.hid hin
      clear hin
      go_wp2_with fail
      go_ret
      exact ⟨false, by simp only [Bool.false_eq_true, false_iff]; exact fun h => (HLE.out.1 h).1 HIN.out, rfl, HB0.out⟩
    have HIN := Lib.hid hin
    have HTW := Lib.hid (show (t.kind == 11) = true ∧ (n == 1) = false ∨ (t.kind == 11) = false by
      by_cases h : t.kind = 11
      · exact Or.inl ⟨by simp [h], by simp; exact fun h2 => hin ⟨h, h2⟩⟩
      · exact Or.inr (by simp [h]))
    clear hin
    rcases HTW.out with ⟨t1, t2⟩ | t1
    all_goals
      go_wp2_with fail
      clear c0 t1
      try clear t2
      go_loopw [5] (fun i wr => ∃ (k : Nat), k ≤ t.args.length ∧ i = .int .i64 k ∧ (∀ x ∈ t.args.take k, (x.made (nextL t.kind n))) ∧ Below (w.alloc (.cells (tmC t tp tc rp rc p c) 35)).heap.size (w.alloc (.cells (tmC t tp tc rp rc p c) 35)) wr) (fun i _ => t.args.length - (intOf i).toNat)
      case atStart => exact ⟨0, Nat.zero_le _, rfl, by simp, Below.refl _ _⟩
      case round =>
        obtain ⟨k, hk, rfl, hts, hbr⟩ := hrel
        have HTS := Lib.hid hts
        have HBR := Lib.hid hbr
        have HBW := Lib.hid (HB0.out.trans (hbr.mono HB0.out.size))
        obtain ⟨d0, d1, d2, d3, d4, d5, d6, d7, d8⟩ := HX0.out.keep hbr
        clear hbr hts
        by_cases hlk : k < t.args.length
        · obtain ⟨b, o, tp2, tc2, rp2, rc2, p2, c2, rfl, hC, hb, h9, hP⟩ := tm_part HT.out.args k hlk
          obtain ⟨g0, g1, g2, g3, g4, g5, g6, g7, g8⟩ := h9 wr (.of_below HBW.out)
          have n4 := nodesM_at t.args k hlk
          have n5 := wtS_at t.args k hlk
          have hmk : t.args[k].nodes ≤ m := by have := HM.out; have := HNE.out; omega
          have hi0 : (0 : Int) ≤ (k : Int) := Int.natCast_nonneg _
          have hi1 : (k : Int) < (t.args.length : Int) := by omega
          have HC := Lib.hid (fun (W : World) (hb : Below wr.heap.size wr W) => l8Made_any m (nextL t.kind n) W hmk (hP.stays (.of_below (HBW.out.trans (hb.mono HBW.out.size)))) (by omega))
          clear hC hb h9 hP n4 n5 hmk
          go_wp2_with fail
          go_region_held3 (fun w' => w'.cell? ⟨w.heap.size, 0, none⟩ = some (.int .i64 t.kind) ∧ w'.cell? ⟨w.heap.size, 1, none⟩ = some (.string t.name) ∧ w'.cell? ⟨w.heap.size, 2, none⟩ = some (.string t.other) ∧ w'.cell? ⟨w.heap.size, 3, none⟩ = some (.int .i64 t.n) ∧ w'.cell? ⟨w.heap.size, 4, none⟩ = some (.int .i64 t.ty.kind) ∧ w'.cell? ⟨w.heap.size, 5, none⟩ = some (.slice tp t.ty.args.length tc) ∧ w'.cell? ⟨w.heap.size, 6, none⟩ = some (.int .i64 t.res.kind) ∧ w'.cell? ⟨w.heap.size, 7, none⟩ = some (.slice rp t.res.args.length rc) ∧ w'.cell? ⟨w.heap.size, 8, none⟩ = some (.slice (some ⟨b, o, none⟩) t.args.length c) ∧ w'.cell? ⟨b, o + k * 9, none⟩ = some (.int .i64 t.args[k].kind) ∧ w'.cell? ⟨b, o + k * 9 + 1, none⟩ = some (.string t.args[k].name) ∧ w'.cell? ⟨b, o + k * 9 + 2, none⟩ = some (.string t.args[k].other) ∧ w'.cell? ⟨b, o + k * 9 + 3, none⟩ = some (.int .i64 t.args[k].n) ∧ w'.cell? ⟨b, o + k * 9 + 4, none⟩ = some (.int .i64 t.args[k].ty.kind) ∧ w'.cell? ⟨b, o + k * 9 + 5, none⟩ = some (.slice tp2 t.args[k].ty.args.length tc2) ∧ w'.cell? ⟨b, o + k * 9 + 6, none⟩ = some (.int .i64 t.args[k].res.kind) ∧ w'.cell? ⟨b, o + k * 9 + 7, none⟩ = some (.slice rp2 t.args[k].res.args.length rc2) ∧ w'.cell? ⟨b, o + k * 9 + 8, none⟩ = some (.slice p2 t.args[k].args.length c2) ∧ Below wr.heap.size wr w')
            (first
              | (go_keep; done)
              | exact ⟨d0, d1, d2, d3, d4, d5, d6, d7, d8, g0, g1, g2, g3, g4, g5, g6, g7, g8, (Below.refl _ _).drew⟩
              | exact keep18 hb7 (by assumption)
              | exact keep18 hb6 (by assumption))
            (first
              | (go_at_call 74; refine (nextS_any t tp tc rp rc (some ⟨b, o, none⟩) c n _).mono ?_; rintro e w6 ⟨rfl, hb6⟩)
              | (go_at_call 50; refine (HC.out _ ((Below.refl _ _).drew.trans hb6)).mono ?_; rintro e w7 ⟨r, hr, rfl, hb7⟩))
          rename_i hH
          have hb2 := hH.2.2.2.2.2.2.2.2.2.2.2.2.2.2.2.2.2.2
          have HB2 := Lib.hid (HBR.out.trans (hb2.mono HBR.out.size))
          clear hH hb6 hb7 g0 g1 g2 g3 g4 g5 g6 g7 g8
          have HR := Lib.hid hr
          clear hr hb2
          cases hr0 : r
          · have hnf : ¬ (t.args[k].made (nextL t.kind n)) := fun h => by have := HR.out.2 h; rw [hr0] at this; cases this
            have HF := Lib.hid hnf
            clear hnf
            subst hr0
            go_wp2_with fail
            go_ret
            exact ⟨false, by simp only [Bool.false_eq_true, false_iff]; exact fun h => HF.out ((HLE.out.1 h).2 _ (List.getElem_mem hlk)), rfl, box_rest HB2.out⟩
          · have HF := Lib.hid (HR.out.1 hr0)
            subst hr0
            go_wp2_with fail
            go_roundw
            case rel => exact ⟨k + 1, by omega, by go_num, (take_all hlk).2 ⟨HTS.out, HF.out⟩, HB2.out⟩
            case measure => simp [intOf]; omega
        · obtain rfl : k = t.args.length := by omega
          have hall := HTS.out
          rw [List.take_length] at hall
          have HALL := Lib.hid hall
          clear hall
          go_wp2_with fail
          go_ret
          exact ⟨true, by simp only [true_iff]; exact HLE.out.2 ⟨HIN.out, HALL.out⟩, rfl, HBW.out⟩

variable {t : Tm} {v : Value} {w : World}
end Go.Proofs.YtingnigiijdllaaDoor
namespace Go.Proofs.YtingnigiijdllaaDoor
open Go Go.RowKit

end Go.Proofs.YtingnigiijdllaaDoor
namespace Go.Proofs.YtingnigiijdllaaDoor
open Go Go.RowKit

variable {C : Nat → Prop} {t : Tm} {v : Value} {w : World}
set_option maxRecDepth 100000 in
set_option maxHeartbeats 1000000 in
theorem rsl10_at {tp rp p : Option Addr} {tc rc c : Nat} (hT : TM' w C t tp tc rp rc p c) (hi : t.IsT) (hn : t.wt ≤ 2097152) : Calls Tryd.prog 26 #[tmV t tp tc rp rc p c] w (Tells t.Rsl w) := by
  have HN := Lib.hid hn
  have HT := Lib.hid hT
  have HX0 := Lib.hid (Bx9.new w t tp tc rp rc p c 35)
  have HB0 := Lib.hid (al_below w (.cells (tmC t tp tc rp rc p c) 35))
  have HI := Lib.hid hi
  clear hT hn hi
  by_cases hs : stuckK t.kind
  · have HS := Lib.hid hs
    obtain ⟨g0, g1, g2, g3, g4, g5, g6, g7, g8⟩ := HX0.out
    go_enter Tryd.func26, Tryd.ntmps26
    rcases hs with hk | hk | hk | hk
    · have t1 : (t.kind == 2) = true := by rw [hk]; rfl
      have t2 : (t.kind == 3) = false := by rw [hk]; rfl
      have t3 : (t.kind == 6) = false := by rw [hk]; rfl
      have t4 : (t.kind == 9) = false := by rw [hk]; rfl
      have t5 : (t.kind == 10) = false := by rw [hk]; rfl
      clear hk
      go_wp2_with fail
      go_ret
      exact ⟨true, ⟨fun _ => ⟨HI.out, Or.inl HS.out⟩, fun _ => rfl⟩, rfl, HB0.out⟩
    · have t1 : (t.kind == 2) = false := by rw [hk]; rfl
      have t2 : (t.kind == 3) = true := by rw [hk]; rfl
      have t3 : (t.kind == 6) = false := by rw [hk]; rfl
      have t4 : (t.kind == 9) = false := by rw [hk]; rfl
      have t5 : (t.kind == 10) = false := by rw [hk]; rfl
      clear hk
      go_wp2_with fail
      go_ret
      exact ⟨true, ⟨fun _ => ⟨HI.out, Or.inl HS.out⟩, fun _ => rfl⟩, rfl, HB0.out⟩
    · have t1 : (t.kind == 2) = false := by rw [hk]; rfl
      have t2 : (t.kind == 3) = false := by rw [hk]; rfl
      have t3 : (t.kind == 6) = true := by rw [hk]; rfl
      have t4 : (t.kind == 9) = false := by rw [hk]; rfl
      have t5 : (t.kind == 10) = false := by rw [hk]; rfl
      clear hk
      go_wp2_with fail
      go_ret
      exact ⟨true, ⟨fun _ => ⟨HI.out, Or.inl HS.out⟩, fun _ => rfl⟩, rfl, HB0.out⟩
    · have t1 : (t.kind == 2) = false := by rw [hk]; rfl
      have t2 : (t.kind == 3) = false := by rw [hk]; rfl
      have t3 : (t.kind == 6) = false := by rw [hk]; rfl
      have t4 : (t.kind == 9) = true := by rw [hk]; rfl
      have t5 : (t.kind == 10) = false := by rw [hk]; rfl
      clear hk
      go_wp2_with fail
      go_ret
      exact ⟨true, ⟨fun _ => ⟨HI.out, Or.inl HS.out⟩, fun _ => rfl⟩, rfl, HB0.out⟩
  by_cases hk : t.kind = 10
  · obtain ⟨x, hx⟩ := List.length_eq_one_iff.1 (isT_one ((isT_node t).1 HI.out).1 (Or.inl hk))
    obtain ⟨b, o, tp2, tc2, rp2, rc2, p2, c2, rfl, hC, hb, h9, hP⟩ := tm_part HT.out.args 0 (by rw [hx]; simp)
    have hx0 : t.args[0]'(by rw [hx]; simp) = x := by simp [hx]
    rw [hx0] at h9 hP
    simp only [Nat.zero_mul, Nat.add_zero] at h9
    have hl1 : t.args.length = 1 := by rw [hx]; rfl
    have hwx : x.wt ≤ 2097152 := by have h1 := t.wt_eq; rw [hx] at h1; simp only [wtS] at h1; have := HN.out; omega
    have HR := Lib.hid (show t.Rsl ↔ (t.lvOk 0 ∧ x.made 1) by
      unfold Tm.Rsl
      rw [hx]
      simp only [madeS, and_true, stuckK, hk]
      constructor
      · rintro ⟨_, h | h⟩
        · exact absurd h (by decide)
        · exact h.2
      · exact fun h => ⟨HI.out, Or.inr ⟨trivial, h⟩⟩)
    have H9 := Lib.hid h9
    have HP := Lib.hid hP
    have HK := Lib.hid hk
    obtain ⟨g0, g1, g2, g3, g4, g5, g6, g7, g8⟩ := HX0.out
    have t1 : (t.kind == 2) = false := by rw [hk]; rfl
    have t2 : (t.kind == 3) = false := by rw [hk]; rfl
    have t3 : (t.kind == 6) = false := by rw [hk]; rfl
    have t4 : (t.kind == 9) = false := by rw [hk]; rfl
    have t5 : (t.kind == 10) = true := by rw [hk]; rfl
    have HL1 := Lib.hid hl1
    clear h9 hP hk hs hx hx0 hl1
    have HC := Lib.hid (l8Ok_any _ 0 _ (Nat.le_refl _) (HT.out.stays (.of_below HB0.out)) HN.out)
    go_enter Tryd.func26, Tryd.ntmps26
    go_wp2_with fail
    refine HC.out.mono ?_
    rintro e w1 ⟨r, hr, rfl, hb1⟩
    have HR1 := Lib.hid hr
    have HB1 := Lib.hid (HB0.out.trans (hb1.mono HB0.out.size))
    clear g0 g1 g2 g3 g4 g5 g6 g7 g8 hr HC
    obtain ⟨g0, g1, g2, g3, g4, g5, g6, g7, g8⟩ := HX0.out.keep hb1
    clear hb1
    cases r with
    | false =>
      go_wp2_with fail
      go_ret
      exact ⟨false, by simp only [Bool.false_eq_true, false_iff]; exact fun h => (by have := HR1.out.2 (HR.out.1 h).1; cases this), rfl, HB1.out⟩
    | true =>
      obtain ⟨a0, a1, a2, a3, a4, a5, a6, a7, a8⟩ := H9.out w1 (.of_below HB1.out)
      have HC := Lib.hid (l8Made_any _ 1 w1 (Nat.le_refl _) (HP.out.stays (.of_below HB1.out)) hwx)
      have l8 := g8
      rw [HL1.out] at l8
      clear g8
      go_wp2_with fail
      refine HC.out.mono ?_
      rintro e w2 ⟨r2, hr2, rfl, hb2⟩
      have HR2 := Lib.hid hr2
      have HB2 := Lib.hid (HB1.out.trans (hb2.mono HB1.out.size))
      clear hr2 hb2
      go_wp2_with fail
      go_ret
      exact ⟨r2, by rw [HR.out]; exact ⟨fun h => ⟨HR1.out.1 (by trivial), HR2.out.1 h⟩, fun h => HR2.out.2 h.2⟩, rfl, HB2.out⟩
  · have HQ := Lib.hid (rsl_not hs hk)
    obtain ⟨g0, g1, g2, g3, g4, g5, g6, g7, g8⟩ := HX0.out
    have t1 : (t.kind == 2) = false := by simp; exact fun h => hs (Or.inl h)
    have t2 : (t.kind == 3) = false := by simp; exact fun h => hs (Or.inr (Or.inl h))
    have t3 : (t.kind == 6) = false := by simp; exact fun h => hs (Or.inr (Or.inr (Or.inl h)))
    have t4 : (t.kind == 9) = false := by simp; exact fun h => hs (Or.inr (Or.inr (Or.inr h)))
    have t5 : (t.kind == 10) = false := by simp; exact hk
    clear hs hk
    go_enter Tryd.func26, Tryd.ntmps26
    go_wp2_with fail
    go_ret
    exact ⟨false, by simp only [Bool.false_eq_true, false_iff]; exact HQ.out, rfl, HB0.out⟩
set_option maxRecDepth 100000 in
theorem rslS_at (h : TM w C t v) (hn : t.wt ≤ 2097152) : Calls Tryd.prog 9 #[v] w (Tells t.Rsl w) := by
  have HN := Lib.hid hn
  obtain ⟨tp, tc, rp, rc, p, c, rfl, hT⟩ := h
  have HT := Lib.hid hT
  have HX0 := Lib.hid (Bx9.new w t tp tc rp rc p c 35)
  have HB0 := Lib.hid (al_below w (.cells (tmC t tp tc rp rc p c) 35))
  clear hT hn
  go_enter Tryd.func9, Tryd.ntmps9
  go_wp2_with fail
  refine (isTM_any _ _ (Nat.le_refl _) (HT.out.stays (.of_below HB0.out)) HN.out).mono ?_
  rintro e w1 ⟨r, hr, rfl, hb1⟩
  have HR := Lib.hid hr
  have HB1 := Lib.hid (HB0.out.trans (hb1.mono HB0.out.size))
  obtain ⟨g0, g1, g2, g3, g4, g5, g6, g7, g8⟩ := HX0.out.keep hb1
  clear hr hb1
  cases r with
  | false =>
    go_wp2_with fail
    go_ret
    exact ⟨false, by simp only [Bool.false_eq_true, false_iff]; exact fun h => (by have := HR.out.2 h.1; cases this), rfl, HB1.out⟩
  | true =>
    go_wp2_with fail
    refine (rsl10_at (HT.out.stays (.of_below HB1.out)) (HR.out.1 (by trivial)) HN.out).mono ?_
    rintro e w2 ⟨r2, hr2, rfl, hb2⟩
    have HR2 := Lib.hid hr2
    have HB2 := Lib.hid (HB1.out.trans (hb2.mono HB1.out.size))
    clear hr2 hb2
    go_wp2_with fail
    go_ret
    exact ⟨r2, HR2.out, rfl, HB2.out⟩
end Go.Proofs.YtingnigiijdllaaDoor
namespace Go.Proofs.YtingnigiijdllaaDoor
open Go Go.RowKit
structure RowM (w : World) (base : Nat) (C : Nat → Prop) (v : Value) (ts : List Tm) (xs : List Value) : Prop where
  own : w.ownsRow base 35 9 v ts.length xs
  blk : ∀ g, v.ownBlock = some g → C g
  ms : MS w (fun z => C z ∧ v.ownBlock ≠ some z) (flatTm ts) xs
theorem own_base {w : World} {a b : Nat} {e : TypeId} {size n : Nat} {v : Value} {xs : List Value} (h : w.ownsRow b e size v n xs) (hab : a ≤ b) : w.ownsRow a e size v n xs := by
  refine ⟨h.1, ?_⟩
  rcases h.2 with h0 | ⟨g, cap, cur, rfl, hg, r⟩
  · exact Or.inl h0
  · exact Or.inr ⟨g, cap, cur, rfl, Nat.le_trans hab hg, r⟩
theorem RowM.start (w : World) (base : Nat) (C : Nat → Prop) : RowM w base C (.slice none 0 0) [] [] := ⟨World.ownsRow_nil _ _ _ _, fun g hg => by simp [Value.ownBlock] at hg, ⟨rfl, fun i d v hd _ => by simp [flatTm] at hd⟩⟩
theorem RowM.stays {w w' : World} {base : Nat} {C : Nat → Prop} {v : Value} {ts : List Tm} {xs : List Value} (h : RowM w base C v ts xs) (hs : Stays C w w') : RowM w' base C v ts xs := by
  have hb := h.blk
  refine ⟨⟨h.own.1, ?_⟩, hb, h.ms.stays (hs.mono (fun _ hz => hz.1))⟩
  rcases h.own.2 with h0 | ⟨g, cap, cur, rfl, hbg, hblk, r⟩
  · exact Or.inl h0
  · exact Or.inr ⟨g, cap, cur, rfl, hbg, (hs.2 g (hb g rfl) (Array.getElem?_eq_some_iff.1 hblk).1).trans hblk, r⟩
theorem RowM.base {w : World} {a b : Nat} {C C' : Nat → Prop} {v : Value} {ts : List Tm} {xs : List Value} (h : RowM w b C v ts xs) (hab : a ≤ b) (hC : ∀ z, C z → z < w.heap.size → C' z) : RowM w a C' v ts xs :=
  ⟨own_base h.own hab, fun g hg => hC g (h.blk g hg) (by
    rcases h.own.2 with ⟨rfl, _⟩ | ⟨g', cap, cur, rfl, hbg, hblk, r⟩
    · simp [Value.ownBlock] at hg
    · simp [Value.ownBlock] at hg
      subst hg
      exact (Array.getElem?_eq_some_iff.1 hblk).1), h.ms.mono (fun z hz hl => ⟨hC z hz.1 hl, hz.2⟩)⟩
theorem RowM.dm {w : World} {base : Nat} {C : Nat → Prop} {v : Value} {ts : List Tm} {xs : List Value} (h : RowM w base C v ts xs) : DM w C (tmD ts) v := by
  have hms := h.ms
  have hblkC := h.blk
  rcases h.own.2 with ⟨rfl, h0⟩ | ⟨g, cap, cur, rfl, hg, hblk, h1, h2, h3, h4⟩
  · obtain rfl := List.eq_nil_of_length_eq_zero h0
    exact .nil _ _ _ _
  · by_cases hz : ts.length = 0
    · obtain rfl := List.eq_nil_of_length_eq_zero hz
      exact .nil _ _ _ _
    · have hlt := (Array.getElem?_eq_some_iff.1 hblk).1
      have hl : (flatTm ts).length = ts.length * 9 := flatTm_len ts
      have hxs : xs.length = ts.length * 9 := by rw [← hl]; exact hms.1
      have at_ : ∀ i d, (flatTm ts)[i]? = some d → i < ts.length * 9 ∧ xs[i]? = some (xs[i]?.getD .nilIface) := fun i d hd => by
        have hi := (List.getElem?_eq_some_iff.1 hd).1
        rw [hl] at hi
        exact ⟨hi, by rw [List.getElem?_eq_getElem (by omega)]; rfl⟩
      exact DM.rows (fun i => xs[i]?.getD .nilIface) (by omega) (by omega) (by unfold maxLen at h2; omega) hl (hblkC g rfl) hlt
        (fun i d hd => by rw [Nat.zero_add, h.own.cellAt i (at_ i d hd).1]; exact (at_ i d hd).2)
        (fun i d hd => (hms.2 i d _ hd (at_ i d hd).2).mono (fun _ hz _ => hz.1))
theorem RowM.app {w w' : World} {base g cap : Nat} {C : Nat → Prop} {v : Value} {ts : List Tm} {xs us : List Value} {x : Tm} (h : RowM w base C v ts xs) (hA : Appd w w' base 35 9 v ts.length xs us g cap) (hg : C g)
    (hx : MS w (fun z => C z ∧ v.ownBlock ≠ some z) x.ds us) : RowM w' base C (.slice (some ⟨g, 0, none⟩) (ts.length + 1) cap) (ts ++ [x]) (xs ++ us) := by
  have go : ∀ {d : D} {u : Value}, DM w (fun z => C z ∧ v.ownBlock ≠ some z) d u → DM w' (fun z => C z ∧ (Value.slice (some ⟨g, 0, none⟩) (ts.length + 1) cap).ownBlock ≠ some z) d u := fun {d u} hd => by
    refine ((hd.mono (C' := fun z => (C z ∧ v.ownBlock ≠ some z) ∧ z < w.heap.size) (fun _ hz hl => ⟨hz, hl⟩)).stays ⟨hA.size, fun z hz hl => (hA.kept z hl hz.1.2).1⟩).mono (fun z hz _ => ⟨hz.1.1, fun e => ?_⟩)
    have := (hA.kept z hz.2 hz.1.2).2
    simp [Value.ownBlock] at e
    omega
  refine ⟨by rw [List.length_append]; exact hA.own, fun g' hg' => by simp [Value.ownBlock] at hg'; exact hg' ▸ hg, ⟨?_, fun i d u hd hu => ?_⟩⟩
  · rw [flatTm_append, List.length_append, List.length_append, h.ms.1]
    have : (flatTm [x]).length = us.length := by rw [hx.1]; simp [flatTm]
    omega
  · have hf : flatTm [x] = x.ds := by simp [flatTm]
    rw [flatTm_append, hf] at hd
    by_cases hi : i < (flatTm ts).length
    · rw [List.getElem?_append_left hi] at hd
      rw [List.getElem?_append_left (by rw [h.ms.1]; exact hi)] at hu
      exact go (h.ms.2 i d u hd hu)
    · rw [List.getElem?_append_right (by omega)] at hd
      rw [List.getElem?_append_right (by rw [h.ms.1]; omega), h.ms.1] at hu
      exact go (hx.2 _ d u hd hu)
structure NewTm (w : World) (base : Nat) (C : Nat → Prop) (t : Tm) (tp : Option Addr) (tc : Nat) (rp : Option Addr) (rc : Nat) (p : Option Addr) (c : Nat) (xs : List Value) : Prop where
  ty : TS w (fun z => C z ∧ (Value.slice p t.args.length c).ownBlock ≠ some z) t.ty.args (.slice tp t.ty.args.length tc)
  res : TS w (fun z => C z ∧ (Value.slice p t.args.length c).ownBlock ≠ some z) t.res.args (.slice rp t.res.args.length rc)
  row : RowM w base C (.slice p t.args.length c) t.args xs
theorem NewTm.tm {w : World} {base : Nat} {C : Nat → Prop} {t : Tm} {tp rp p : Option Addr} {tc rc c : Nat} {xs : List Value} (h : NewTm w base C t tp tc rp rc p c xs) : TM' w C t tp tc rp rc p c :=
  ⟨h.ty.mono (fun _ hz _ => hz.1), h.res.mono (fun _ hz _ => hz.1), h.row.dm⟩
theorem NewTm.stays {w w' : World} {base : Nat} {C : Nat → Prop} {t : Tm} {tp rp p : Option Addr} {tc rc c : Nat} {xs : List Value} (h : NewTm w base C t tp tc rp rc p c xs) (hs : Stays C w w') : NewTm w' base C t tp tc rp rc p c xs :=
  ⟨h.ty.stays (hs.mono (fun _ hz => hz.1)), h.res.stays (hs.mono (fun _ hz => hz.1)), h.row.stays hs⟩
theorem NewTm.base {w : World} {a b : Nat} {C C' : Nat → Prop} {t : Tm} {tp rp p : Option Addr} {tc rc c : Nat} {xs : List Value} (h : NewTm w b C t tp tc rp rc p c xs) (hab : a ≤ b) (hC : ∀ z, C z → z < w.heap.size → C' z) : NewTm w a C' t tp tc rp rc p c xs :=
  ⟨h.ty.mono (fun z hz hl => ⟨hC z hz.1 hl, hz.2⟩), h.res.mono (fun z hz hl => ⟨hC z hz.1 hl, hz.2⟩), h.row.base hab hC⟩
theorem TM'.ms {w : World} {C : Nat → Prop} {t : Tm} {tp rp p : Option Addr} {tc rc c : Nat} (h : TM' w C t tp tc rp rc p c) :
    MS w C t.ds [.int .i64 t.kind, .string t.name, .string t.other, .int .i64 t.n, .int .i64 t.ty.kind, .slice tp t.ty.args.length tc, .int .i64 t.res.kind, .slice rp t.res.args.length rc, .slice p t.args.length c] := by
  refine ⟨by rw [t.ds_len]; rfl, fun i d v hd hv => ?_⟩
  rw [t.ds_eq] at hd
  match i, hd, hv with
  | 0, hd, hv => cases hd; cases hv; exact .cell _
  | 1, hd, hv => cases hd; cases hv; exact .cell _
  | 2, hd, hv => cases hd; cases hv; exact .cell _
  | 3, hd, hv => cases hd; cases hv; exact .cell _
  | 4, hd, hv => cases hd; cases hv; exact .cell _
  | 5, hd, hv => cases hd; cases hv; exact h.ty.dm
  | 6, hd, hv => cases hd; cases hv; exact .cell _
  | 7, hd, hv => cases hd; cases hv; exact h.res.dm
  | 8, hd, hv => cases hd; cases hv; exact h.args
  | n + 9, hd, hv => simp at hv
end Go.Proofs.YtingnigiijdllaaDoor
namespace Go.Proofs.YtingnigiijdllaaDoor
open Go Go.RowKit

theorem cell_of_blk' {w : World} {g : Nat} {cs : Array Value} {t : TypeId} {fr : Nat × Nat} (h : w.heap[g]? = some (.cells cs t fr)) {i : Nat} : w.cell? ⟨g, i, none⟩ = cs[i]? := by simp [World.cell?, h]
structure Job where
  x : Ty
  b : Nat
  o : Nat
def Free (st : List Job) (b o : Nat) : Prop := ∀ e ∈ st, ¬ (e.b = b ∧ (o = e.o ∨ o = e.o + 1))
def RootDone (w' : World) (R : Nat) (T : Ty) : Prop := ∃ s, w'.cell? ⟨R, 0, none⟩ = some (.int .i64 T.kind) ∧ w'.cell? ⟨R, 1, none⟩ = some s ∧ OS w' T.args s (fun b => R < b)
def kidsOf (b : Nat) (ys : List Ty) : List Job := ys.mapIdx fun j y => ⟨y, b, j * 2⟩
theorem kidsOf_length (b : Nat) (ys : List Ty) : (kidsOf b ys).length = ys.length := by simp [kidsOf]
theorem kidsOf_at {b : Nat} {ys : List Ty} {j : Nat} {e : Job} (h : (kidsOf b ys)[j]? = some e) : ∃ y, ys[j]? = some y ∧ e = ⟨y, b, j * 2⟩ := by
  simp only [kidsOf, List.getElem?_mapIdx, Option.map_eq_some_iff] at h
  obtain ⟨y, h1, h2⟩ := h
  exact ⟨y, h1, h2.symm⟩
theorem kidsOf_get {b : Nat} {ys : List Ty} {j : Nat} {y : Ty} (h : ys[j]? = some y) : (kidsOf b ys)[j]? = some ⟨y, b, j * 2⟩ := by
  simp [kidsOf, List.getElem?_mapIdx, h]
theorem kidsOf_mem {b : Nat} {ys : List Ty} {e : Job} (h : e ∈ kidsOf b ys) : e.b = b ∧ e.o % 2 = 0 ∧ ∃ j y, ys[j]? = some y ∧ e = ⟨y, b, j * 2⟩ := by
  obtain ⟨j, hj⟩ := List.getElem?_of_mem h
  obtain ⟨y, hy, rfl⟩ := kidsOf_at hj
  exact ⟨rfl, by simp, j, y, hy, rfl⟩

section
variable {w wn : World} {U : Nat → Prop} {st0 : List Job} {x y : Ty} {b o R : Nat} {T : Ty}

end
end Go.Proofs.YtingnigiijdllaaDoor
namespace Go.Proofs.YtingnigiijdllaaDoor
open Go Go.RowKit Go.Shelf
attribute [local go_sem] Oper.semAt_some

abbrev LT (w : World) (C : Nat → Prop) (l : List Ty) (v : Value) : Prop := TS w C l v
abbrev NT (w : World) (C : Nat → Prop) (t : Ty) (v : Value) : Prop := TT w C t v
structure At2 (w : World) (b o : Nat) (t : Ty) (p : Option Addr) (c : Nat) : Prop where
  kind : w.cell? ⟨b, o, none⟩ = some (.int .i64 t.kind)
  args : w.cell? ⟨b, o + 1, none⟩ = some (.slice p t.args.length c)
theorem ntT_mk {w : World} {C : Nat → Prop} {t : Ty} {p : Option Addr} {c : Nat} (h : TS w C t.args (.slice p t.args.length c)) : NT w C t (.agg #[.int .i64 t.kind, .slice p t.args.length c]) := ⟨_, rfl, h⟩
abbrev TS' (w : World) (C : Nat → Prop) (t : Ty) (p : Option Addr) (c : Nat) : Prop := TS w C t.args (.slice p t.args.length c)

mutual
def walkT : Ty → Nat → List (Ty × Nat)
  | .mk k ts, d => (.mk k ts, d) :: walkST ts (d + 1)
def walkST : List Ty → Nat → List (Ty × Nat)
  | [], _ => []
  | t :: ts, d => walkT t d ++ walkST ts d
end
theorem walkT_eq (t : Ty) (d : Nat) : walkT t d = (t, d) :: walkST t.args (d + 1) := by cases t; rfl
theorem walkST_one (t : Ty) (d : Nat) : walkST [t] d = walkT t d := by simp [walkST]
mutual
theorem walkT_length : ∀ (t : Ty) (d : Nat), (walkT t d).length = t.nodes
  | .mk k ts, d => by simp only [walkT, List.length_cons, walkST_length ts, Ty.nodes]; omega
theorem walkST_length : ∀ (ts : List Ty) (d : Nat), (walkST ts d).length = nodesS ts
  | [], d => by simp [walkST, nodesS]
  | t :: ts, d => by simp only [walkST, List.length_append, walkST_length ts, walkT_length t, nodesS]
end
abbrev WaitT := List (List Ty × Value)
def rWT : WaitT → List (Ty × Nat)
  | [] => []
  | e :: r => walkST e.1 (r.length + 1) ++ rWT r
def stWalkT (st : WaitT) : List (Ty × Nat) := rWT st.reverse
theorem stWalkT_snoc (st : WaitT) (e : List Ty × Value) : stWalkT (st ++ [e]) = walkST e.1 (st.length + 1) ++ stWalkT st := by simp [stWalkT, rWT]
theorem stWalkT_nil : stWalkT [] = [] := rfl

theorem wsndT_last (st : WaitT) (e : List Ty × Value) : ((st ++ [e]).map (·.2))[st.length]? = some e.2 := by simp
theorem wsndT_take (st : WaitT) (e : List Ty × Value) : ((st ++ [e]).map (·.2)).take (st.length * 1) = st.map (·.2) := by simp
theorem wsndT_set (st : WaitT) (e : List Ty × Value) (l : List Ty) (u : Value) : ((st ++ [e]).map (·.2)).set st.length u = (st ++ [(l, u)]).map (·.2) := by
  simp

theorem infoLT : (Tryd.prog.info? 30).map (fun i => (i.zero, i.size, i.bytes)) = some (some (.slice none 0 0), 1, 24) := by kernel_rfl
structure MidT (W wr : World) (C : Nat → Prop) (t : Ty) (p : Option Addr) (c : Nat) (J : List (Ty × Nat) → World → Prop) (pre : List (Ty × Nat)) (st : WaitT) (g cap : Nat) : Prop where
  own : wr.ownsRow (W.heap.size + 1) 30 1 (.slice (some ⟨g, 0, none⟩) st.length cap) st.length (st.map (·.2))
  j : J pre wr
  ts : ∀ e ∈ st, LT W C e.1 e.2 ∨ e = ([t], .slice (some ⟨W.heap.size, 0, none⟩) 1 1)
  stays : Stays C W wr
  size : W.heap.size ≤ wr.heap.size
  root : wr.heap[W.heap.size]? = some (.cells #[.int .i64 t.kind, .slice p t.args.length c] 32 (0, 0))
  node : TS' W C t p c
  cnt : st.length ≤ pre.length + 1

theorem MidT.lt {W wr : World} {C : Nat → Prop} {t : Ty} {p : Option Addr} {c : Nat} {J : List (Ty × Nat) → World → Prop} {pre : List (Ty × Nat)} {st : WaitT} {g cap : Nat} (h : MidT W wr C t p c J pre st g cap) : W.heap.size < wr.heap.size := (Array.getElem?_eq_some_iff.1 h.root).1
theorem MidT.open {W wr : World} {C : Nat → Prop} {t : Ty} {p : Option Addr} {c : Nat} {J : List (Ty × Nat) → World → Prop} {pre : List (Ty × Nat)} {st : WaitT} {g cap : Nat} {x : Ty} {l : List Ty} {v : Value} (h : MidT W wr C t p c J pre (st ++ [(x :: l, v)]) g cap) :
    ∃ (b o c : Nat) (p' : Option Addr) (c' : Nat), v = .slice (some ⟨b, o, none⟩) (l.length + 1) c ∧ l.length + 1 ≤ c ∧ c ≤ 9223372036854775807 ∧ (C b ∨ b = W.heap.size) ∧ b < wr.heap.size ∧
      At2 wr b o x p' c' ∧ TS' W C x p' c' ∧ ∀ q, (l ≠ [] → q = some ⟨b, o + 2, none⟩) → LT W C l (.slice q l.length (c - 1)) := by
  rcases h.ts (x :: l, v) (by simp) with hT | he
  · simp only at hT
    cases hT with
    | @cons _ b o c S h1 hc hm hC hb hk hs hr =>
      obtain ⟨p', c', hf⟩ := (hr 0 x rfl).form
      have e0 := hk 0 x rfl
      have e1 := hs 0 x rfl
      rw [Nat.zero_mul, Nat.add_zero] at e0 e1
      rw [hf] at e1
      have hkeep : ∀ i u, W.cell? ⟨b, i, none⟩ = some u → wr.cell? ⟨b, i, none⟩ = some u := fun i u hu => (World.cell?_of_block (w := W) (a := ⟨b, i, none⟩) (h.stays.2 b hC hb)).trans hu
      refine ⟨b, o, c, p', c', rfl, hc, hm, Or.inl hC, Nat.lt_of_lt_of_le hb h.size, ⟨hkeep _ _ e0, hkeep _ _ e1⟩, (by show TS W C x.args _; rw [← hf]; exact hr 0 x rfl), fun q hq => ?_⟩
      by_cases hl : l = []
      · subst hl; exact .nil _ _
      · rw [hq hl]
        have hl1 : 1 ≤ l.length := by cases l with | nil => exact absurd rfl hl | cons => simp
        refine .cons (fun j => S (j + 1)) hl1 (by simp only [List.length_cons] at hc; omega) (by omega) hC hb (fun j y hj => ?_) (fun j y hj => ?_) (fun j y hj => hr (j + 1) y (by simpa using hj))
        · have := hk (j + 1) y (by simpa using hj)
          rw [show o + (j + 1) * 2 = o + 2 + j * 2 by omega] at this; exact this
        · have := hs (j + 1) y (by simpa using hj)
          rw [show o + (j + 1) * 2 = o + 2 + j * 2 by omega] at this; exact this
  · simp only [Prod.mk.injEq, List.cons.injEq] at he
    obtain ⟨⟨rfl, rfl⟩, rfl⟩ := he
    refine ⟨W.heap.size, 0, 1, p, c, rfl, by simp, by omega, Or.inr rfl, h.lt, ?_, h.node, fun q hq => ?_⟩
    · have hr := h.root
      exact ⟨cell_of_blk hr 0, cell_of_blk hr 1⟩
    · exact .nil _ _

theorem argsT_any (k : Int) (p : Option Addr) (n c : Nat) (w : World) : Calls Tryd.prog 99 #[.agg #[.int .i64 k, .slice p n c]] w fun e w' => e = .returned (.slice p n c) ∧ Below w.heap.size w w' := by
  go_enter Tryd.func99, Tryd.ntmps99
  go_wp2
  go_ret
  exact ⟨rfl, (Below.refl _ _).alloc (Nat.le_refl _) _⟩

set_option maxRecDepth 100000 in
set_option maxHeartbeats 4000000 in
theorem nodesT_it (l Bt Bp : Nat) (t : Ty) (p : Option Addr) (c : Nat) (Cb C : Nat → Prop) (W : World) (J Jx : List (Ty × Nat) → World → Prop)
    (hBt : W.heap[Bt]? = some (.cells #[.int .i64 t.kind, .slice p t.args.length c] 32 (0, 0))) (hBp : W.heap[Bp]? = some (.cells #[.func (.func 99) #[] #[]] 120 (0, 0))) (hT : TS' W C t p c) (hn : t.nodes ≤ 2097153)
    (hCb : ∀ b, Cb b → b < W.heap.size) (hC : ∀ b, C b → ¬ Cb b ∧ b < W.heap.size) (hCp : C Bp)
    (hJ : ∀ pre A B, J pre A → Below W.heap.size A B → J pre B)
    (hY : ∀ pre x v d W1, J pre W1 → pre ++ [(x, d)] <+: walkT t 1 → NT W1 C x v → YieldAt Fence.wide 0 Tryd.prog l #[v, .int .i64 (d : Nat)] W1 fun e W' =>
      (e = .returned (.bool true) ∧ J (pre ++ [(x, d)]) W' ∧ Holds Cb W1 W') ∨ (e = .returned (.bool false) ∧ Jx (pre ++ [(x, d)]) W'))
    (h0 : J [] W) :
    CallsIn Fence.wide 1 Tryd.prog 108 #[.func (.yield l) #[] #[], .pointer (some ⟨Bt, 0, none⟩), .pointer (some ⟨Bp, 0, none⟩)] W fun e W' =>
      (∃ v, e = .returned v) ∧ (J (walkT t 1) W' ∨ ∃ pre, pre <+: walkT t 1 ∧ Jx pre W') := by
  obtain ⟨i0, hi, hz0, hz1, hz2⟩ := info_parts infoLT
  have HT := Lib.hid hT
  have HY := Lib.hid hY
  have HJ := Lib.hid hJ
  have HJ0 := Lib.hid h0
  have HCb := Lib.hid hCb
  have HC := Lib.hid hC
  have HCP := Lib.hid hCp
  have HBP := Lib.hid hBp
  have HN := Lib.hid hn
  have k0 := cell_of_blk hBt 0
  have k1 := cell_of_blk hBt 1
  have kp := cell_of_blk hBp 0
  simp only [List.getElem?_toArray, List.getElem?_cons_zero, List.getElem?_cons_succ] at k0 k1 kp
  clear hT hY hJ h0 hCb hC hBt hBp hn
  refine callsIn_of_wp Tryd.func108 rfl trivial ?_ rfl
  simp only [Tryd.ntmps108, List.size_toArray, List.length_cons, List.length_nil, Nat.reduceAdd, Nat.reduceSub, Array.replicate_succ, Array.replicate_zero, List.push_toArray, List.append_toArray, List.nil_append, List.cons_append]
  gi_wp2_with fail
  gi_loopg [4] (2 * (walkT t 1).length + 1) (fun k v wr => ∃ (pre : List (Ty × Nat)) (st : WaitT) (g cap : Nat), v = .slice (some ⟨g, 0, none⟩) st.length cap ∧ k = 2 * (stWalkT st).length + st.length ∧ pre ++ stWalkT st = walkT t 1 ∧ MidT W wr C t p c J pre st g cap)
  case atStart =>
    refine ⟨[], [([t], .slice (some ⟨W.heap.size, 0, none⟩) 1 1)], W.heap.size + 1, 1, rfl, by simp [stWalkT, rWT, walkST_one], by simp [stWalkT, rWT, walkST_one], ?_⟩
    have hb : Below W.heap.size W ((W.alloc (.cells #[.int .i64 t.kind, .slice p t.args.length c] 32)).alloc (.cells #[.slice (some ⟨W.heap.size, 0, none⟩) 1 1] 30)) := ((Below.refl _ W).alloc (Nat.le_refl _) _).alloc (by simp) _
    refine ⟨?_, HJ.out _ _ _ HJ0.out hb, ?_, .of_below hb, hb.size, ?_, HT.out, by simp⟩
    · have h1 := World.ownsRow_lit (base := W.heap.size + 1) (e := 30) (size := 1) (W.alloc (.cells #[.int .i64 t.kind, .slice p t.args.length c] 32)) #[.slice (some ⟨W.heap.size, 0, none⟩) 1 1] 1 (by simp) (by unfold maxLen; omega) rfl
      rw [show (W.alloc (.cells #[.int .i64 t.kind, .slice p t.args.length c] 32)).heap.size = W.heap.size + 1 by simp] at h1
      exact h1
    · intro e he
      simp only [List.mem_singleton] at he
      exact Or.inr he
    · rw [Below.heap_alloc _ _ _ (by simp)]
      exact blk_new _ _
  case round =>
    rename World => wo
    obtain ⟨pre, st, g, cap, rfl, rfl, hord, hM⟩ := hrel
    rcases snoc_cases st with rfl | ⟨st0, ⟨ls, sl⟩, rfl⟩
    · have HM := Lib.hid hM
      have HO := Lib.hid hord
      clear hM hord
      gi_wp2
      go_end0
      have hp : pre = walkT t 1 := by have := HO.out; simpa [stWalkT, rWT] using this
      exact ⟨⟨_, rfl⟩, .inl (hp ▸ HM.out.j)⟩
    · have hlen : (st0 ++ [((ls, sl) : List Ty × Value)]).length = st0.length + 1 := by simp
      have hown := hM.own
      rw [hlen] at hown
      rw [hlen]
      obtain ⟨hcap1, hcap2, hg1, hg2⟩ := row_cap hown
      have k0 := (hown.cellAt st0.length (by omega)).trans (wsndT_last st0 _)
      have kz := hown.frozenAt st0.length
      simp only at k0
      unfold maxLen at hcap2
      have i0' : (0 : Int) ≤ (st0.length : Int) := Int.natCast_nonneg _
      have i1' : (st0.length : Int) < ((st0.length : Int) + 1) := by omega
      have hcnt : st0.length ≤ 2097153 := by
        have h1 := hM.cnt
        have h2 := congrArg List.length hord
        have h3 := HN.out
        rw [List.length_append, walkT_length] at h2
        rw [hlen] at h1
        omega
      cases ls with
      | nil =>
        have HM := Lib.hid hM
        have HO := Lib.hid hord
        have HOWN := Lib.hid hown
        obtain ⟨a, c0, hsl⟩ : ∃ a c, sl = .slice a 0 c := by
          rcases hM.ts ([], sl) (by simp) with h1 | h1
          · exact h1.form
          · simp at h1
        subst hsl
        clear hM hord hown
        gi_wp2_with fail
        go_roundg (2 * (stWalkT st0).length + st0.length)
        case rel =>
          have h1 := row_take HOWN.out (Nat.le_succ st0.length)
          rw [wsndT_take] at h1
          refine ⟨pre, st0, g, cap, rfl, rfl, by have := HO.out; rwa [stWalkT_snoc] at this, h1, HM.out.j, fun e he => HM.out.ts e (List.mem_append_left _ he), HM.out.stays, HM.out.size, HM.out.root, HM.out.node, ?_⟩
          have := HM.out.cnt
          rw [List.length_append] at this
          omega
        case measure =>
          rw [stWalkT_snoc, List.length_append, List.length_append]
          simp only [walkST, List.length_nil, List.length_singleton]
          omega
      | cons x ls =>
        obtain ⟨b, o, c0, p', c', rfl, hlc, hc63, hbC, hbw, hcell, hnx, htail⟩ := hM.open
        have hbg : b ≠ g := by
          have h1 := hg1
          rcases hbC with h2 | h2
          · have := (HC.out b h2).2
            omega
          · omega
        obtain ⟨q, hq⟩ : ∃ q, (if c0 = 1 then some (⟨b, o, none⟩ : Addr) else some ⟨b, o + 2, none⟩) = q := ⟨_, rfl⟩
        have htl : LT W C ls (.slice q ls.length (c0 - 1)) := htail q (fun hne => by
          have h1 : 1 ≤ ls.length := by cases ls with | nil => exact absurd rfl hne | cons => simp
          rw [← hq, if_neg (by omega)])
        obtain ⟨hst, hgr⟩ := hown.stored st0.length (.slice q ls.length (c0 - 1))
        rw [wsndT_set st0 _ ls] at hst
        have hb1 : Below (W.heap.size + 1) wo (wo.setCell ⟨g, st0.length, none⟩ (.slice q ls.length (c0 - 1))) := (Below.refl _ wo).setCell (p := ⟨g, st0.length, none⟩) hg1 _
        have hcC : ∀ z, C z → z < W.heap.size := fun z hz => (HC.out z hz).2
        have hst1 : Stays C W (wo.setCell ⟨g, st0.length, none⟩ (.slice q ls.length (c0 - 1))) := hM.stays.trans ⟨hb1.size, fun z hz _ => hb1.block z (by have := hcC z hz; omega)⟩
        have hpre : pre ++ [(x, st0.length + 1)] <+: walkT t 1 := ⟨walkST x.args (st0.length + 1 + 1) ++ (walkST ls (st0.length + 1) ++ stWalkT st0), by rw [← hord, stWalkT_snoc]; simp only [walkST, walkT_eq, List.cons_append, List.append_assoc, List.nil_append]⟩
        obtain ⟨fn, tmps, assign, body, hy, hR⟩ := HY.out pre x (.agg #[.int .i64 x.kind, .slice p' x.args.length c']) (st0.length + 1) _ (HJ.out _ _ _ hM.j (hb1.mono (by omega))) hpre (ntT_mk (hnx.stays hst1))
        rw [show ((st0.length + 1 : Nat) : Int) = (st0.length : Int) + 1 from rfl] at hy
        have hroot : (wo.setCell ⟨g, st0.length, none⟩ (.slice q ls.length (c0 - 1))).heap[W.heap.size]? = some (.cells #[.int .i64 t.kind, .slice p t.args.length c] 32 (0, 0)) := (hb1.block _ (by omega)).trans hM.root
        have HM := Lib.hid hM
        have HO := Lib.hid hord
        have HST := Lib.hid hst
        have HB1 := Lib.hid hb1
        have HST1 := Lib.hid hst1
        have HPRE := Lib.hid hpre
        have HR := Lib.hid hR
        have HTL := Lib.hid htl
        have HNX := Lib.hid hnx
        have HBC := Lib.hid hbC
        have HROOT := Lib.hid hroot
        have HQ := Lib.hid hlc
        obtain ⟨f0, f1⟩ := hcell
        have hl1 : (1 : Int) ≤ ((ls.length : Int) + 1) := by omega
        clear hM hord hown hst hgr hb1 hst1 hpre hR htl htail hnx hbC hcC hroot
        gi_wp2_with fail
        refine HR.out.mono ?_
        rintro e W3 (⟨rfl, hJ3, hH3⟩ | ⟨rfl, hJx3⟩)
        · have hbnC : ¬ Cb b := by
            rcases HBC.out with h1 | h1
            · exact (HC.out b h1).1
            · intro hc; have := HCb.out b hc; omega
          have hgnC : ¬ Cb g := fun hc => by have := HCb.out g hc; omega
          have hs1 := HB1.out.size
          have hb3 : W3.heap[b]? = wo.heap[b]? := (hH3.2 b (by omega) hbnC).trans (Below.heap_setCell _ _ _ _ hbg)
          have hp3 : W3.heap[Bp]? = W.heap[Bp]? := by
            have h1 := HC.out Bp hCp
            have h2 := HM.out.size
            rw [hH3.2 Bp (by omega) h1.1]
            exact HST1.out.2 Bp hCp h1.2
          have hown3 := row_of_block HST.out (hH3.2 g (by omega) hgnC)
          have hr3 : W3.heap[W.heap.size]? = some (.cells #[.int .i64 t.kind, .slice p t.args.length c] 32 (0, 0)) := by
            rw [hH3.2 W.heap.size (by have := HM.out.lt; omega) (fun hc => by have := HCb.out _ hc; omega)]
            exact HROOT.out
          have hlen3 : (st0 ++ [(ls, Value.slice q ls.length (c0 - 1))]).length = st0.length + 1 := by simp
          have hM3 : MidT W W3 C t p c J (pre ++ [(x, st0.length + 1)]) (st0 ++ [(ls, .slice q ls.length (c0 - 1))]) g cap := by
            refine ⟨?_, hJ3, fun e he => ?_, HST1.out.trans ⟨hH3.1, fun z hz hl => hH3.2 z hl (HC.out z hz).1⟩, ?_, hr3, HM.out.node, ?_⟩
            · rw [hlen3]; exact hown3
            · rcases List.mem_append.1 he with he | he
              · exact HM.out.ts e (List.mem_append_left _ he)
              · simp only [List.mem_singleton] at he
                subst he
                exact Or.inl HTL.out
            · have := hH3.1
              have := HM.out.size
              omega
            · have := HM.out.cnt
              rw [hlen] at this
              rw [hlen3, List.length_append, List.length_singleton]
              omega
          have g0 := (World.cell?_of_block (a := ⟨b, o, none⟩) hb3).trans f0
          have g1 := (World.cell?_of_block (a := ⟨b, o + 1, none⟩) hb3).trans f1
          have kp3 := cell_of_blk (hp3.trans HBP.out) 0
          simp only [List.getElem?_toArray, List.getElem?_cons_zero] at kp3
          have HM3 := Lib.hid hM3
          have HOWN3 := Lib.hid hown3
          have hsz3 := hM3.lt
          clear hJ3 hH3 hown3 hM3 hy HR k0 kz hb3 hp3 hr3 hbnC hgnC f0 f1 HB1 HST1 HST
          gi_wp2_with fail
          refine wpIn_wide.2 ?_
          go_region_law (first
            | (refine step_app1 (w0 := w1) (base := W.heap.size + 1) (v := .slice (some ⟨g, 0, none⟩) (st0.length + 1) cap) (n := st0.length + 1) (xs := (st0 ++ [(ls, Value.slice q ls.length (c0 - 1))]).map (·.2)) (cs := [.slice p' x.args.length c']) rfl (.tmp 40) (.tmp 46) rfl Tryd.underlying132 hi hz0 hz1 hz2 rfl (by decide) rfl (row_below HOWN3.out ((Below.refl W3.heap.size W3).drew.trans hb1)) _ rfl (by simp) rfl (fun u hu => by simp at hu; subst hu; rfl) (by unfold maxLen; omega) (by omega) (by have := hb1.size; simp at this; omega) ?_; intro w' g2 cap2 hA)
            | (go_simp; go_at_call 99; refine (argsT_any _ _ _ _ _).mono ?_; rintro e w1 ⟨rfl, hb1⟩))
          all_goals
            have HA := Lib.hid hA
            have HB := Lib.hid hb1
            clear hA hb1
            gi_wp2_with fail
            go_roundg (2 * (stWalkT ((st0 ++ [(ls, Value.slice q ls.length (c0 - 1))]) ++ [(x.args, .slice p' x.args.length c')])).length + (st0.length + 2))
            case rel =>
              have hb3 : Below W3.heap.size W3 w1 := (Below.refl W3.heap.size W3).drew.trans HB.out
              have hlen3 : (st0 ++ [(ls, Value.slice q ls.length (c0 - 1))]).length = st0.length + 1 := by simp
              have hg3 := (row_cap HOWN3.out).2.2
              have hs3 := hb3.size
              have hbw : Below (W.heap.size + 1) W3 w' := (hb3.mono (by omega)).trans HA.out.below
              refine ⟨pre ++ [(x, st0.length + 1)], (st0 ++ [(ls, .slice q ls.length (c0 - 1))]) ++ [(x.args, .slice p' x.args.length c')], g2, cap2, by rw [List.length_append, hlen3]; rfl, by rw [List.length_append, hlen3]; rfl, ?_, ?_⟩
              · rw [stWalkT_snoc, hlen3, stWalkT_snoc, ← HO.out, stWalkT_snoc]
                simp only [walkST, walkT_eq, List.cons_append, List.append_assoc, List.nil_append]
              · refine ⟨?_, HJ.out _ _ _ HM3.out.j (hbw.mono (by omega)), fun e he => ?_, HM3.out.stays.trans ⟨hbw.size, fun z hz _ => hbw.block z (by have := (HC.out z hz).2; omega)⟩, by have := hbw.size; have := HM3.out.size; omega, (hbw.block _ (by omega)).trans HM3.out.root, HM3.out.node, ?_⟩
                · rw [List.map_append, List.length_append, hlen3]
                  exact HA.out.own
                · rcases List.mem_append.1 he with he | he
                  · exact HM3.out.ts e he
                  · simp only [List.mem_singleton] at he
                    subst he
                    exact Or.inl (id HNX.out)
                · have := HM.out.cnt
                  rw [hlen] at this
                  simp only [List.length_append, List.length_cons, List.length_nil]
                  omega
            case measure =>
              have h1 := HO.out
              simp only [stWalkT_snoc, walkST, walkT_eq, List.length_append, List.length_cons, List.length_nil, Nat.zero_add]
              omega
        · gi_wp2_with fail
          refine bodyPost_ret (results_none rfl _ _ _) rfl ?_
          exact ⟨⟨_, rfl⟩, .inr ⟨pre ++ [(x, st0.length + 1)], HPRE.out, hJx3⟩⟩
end Go.Proofs.YtingnigiijdllaaDoor
namespace Go.Proofs.YtingnigiijdllaaDoor
open Go Go.RowKit
def Part (W W' : World) (n : Nat) (s' : Value) : Prop := (n = 0 ∧ s' = .slice none 0 0) ∨
  ∃ (b' cc : Nat) (K : Nat → Int) (S : Nat → Value), s' = .slice (some ⟨b', 0, none⟩) n cc ∧ W.heap.size ≤ b' ∧ cc ≤ maxLen ∧ Row W' b' n cc K S
theorem app_empty (p : Option Addr) (c : Nat) (w : World) (ty : TypeId) : (Builtin.append_ #[30, 30] ty #[.slice none 0 0, .slice p 0 c]).run Tryd.prog w = .ok (.slice none 0 0) w := by
  cases p <;> simp [Builtin.append_, go_sem]
theorem app_types {C : Nat → Prop} {ts : List Ty} {p : Option Addr} {c : Nat} {w : World} (h : TS w C ts (.slice p ts.length c)) (hn : ts.length ≤ 2097152) (ty : TypeId) :
    ∃ s' w', (Builtin.append_ #[30, 30] ty #[.slice none 0 0, .slice p ts.length c]).run Tryd.prog w = .ok s' w' ∧ Part w w' ts.length s' ∧ Below w.heap.size w w' := by
  by_cases h0 : ts.length = 0
  · rw [h0]
    exact ⟨_, _, app_empty p c w ty, Or.inl ⟨rfl, rfl⟩, Below.refl _ _⟩
  obtain ⟨j0, hj, hy0, hy1, hy2⟩ := info_parts infoTy
  obtain ⟨b, o, p0, c0, rfl, -, -⟩ := h.at 0 ts[0] (List.getElem?_eq_getElem (by omega))
  have hex : ∀ j, ∃ V : Value, j < ts.length → w.cell? ⟨b, o + j * 2, none⟩ = some (.int .i64 (ts[j]?.getD (.mk 0 [])).kind) ∧ w.cell? ⟨b, o + j * 2 + 1, none⟩ = some V ∧ V.oneCell' = true := fun j => by
    by_cases hj2 : j < ts.length
    · obtain ⟨b', o', p', c', hq, hc, _⟩ := h.at j ts[j] (List.getElem?_eq_getElem hj2)
      simp only [Option.some.injEq, Addr.mk.injEq, and_true] at hq
      obtain ⟨rfl, rfl⟩ := hq
      obtain ⟨e1, e2⟩ := hc w (.of_below (Below.refl _ _))
      exact ⟨_, fun _ => ⟨by rw [e1, List.getElem?_eq_getElem hj2]; rfl, e2, rfl⟩⟩
    · exact ⟨undef, fun h => absurd h hj2⟩
  obtain ⟨V, hV⟩ := Classical.axiomOfChoice hex
  have hcell : ∀ i, i < ts.length * 2 → w.cell? ⟨b, o + i, none⟩ = some (if i % 2 = 0 then .int .i64 (ts[i / 2]?.getD (.mk 0 [])).kind else V (i / 2)) ∧ (if i % 2 = 0 then Value.int .i64 (ts[i / 2]?.getD (.mk 0 [])).kind else V (i / 2)).oneCell' = true := fun i hi => by
    obtain ⟨h1, h2, h3⟩ := hV (i / 2) (by omega)
    by_cases he : i % 2 = 0
    · rw [if_pos he]
      rw [show o + i = o + i / 2 * 2 by omega]
      exact ⟨h1, rfl⟩
    · rw [if_neg he]
      rw [show o + i = o + i / 2 * 2 + 1 by omega]
      exact ⟨h2, h3⟩
  obtain ⟨s', w', hr, ho, hg, hwh⟩ := run_app (P := Tryd.prog) w.heap.size 30 ty 32 j0 _ 2 _ Tryd.underlying30 hj hy0 hy1 hy2 rfl (by decide)
    (.slice none 0 0) 0 [] (World.ownsRow_nil w _ _ _) ⟨b, o, none⟩ ts.length c ((List.range (ts.length * 2)).map fun i => if i % 2 = 0 then Value.int .i64 (ts[i / 2]?.getD (.mk 0 [])).kind else V (i / 2)) (by simp) (fun j u hu => by
      rw [List.getElem?_map, Option.map_eq_some_iff] at hu
      obtain ⟨i, hi, rfl⟩ := hu
      have hlt := (List.getElem?_eq_some_iff.1 hi).1
      rw [List.length_range] at hlt
      rw [List.getElem?_range hlt] at hi
      obtain rfl := Option.some.inj hi
      rw [show ((⟨b, o, none⟩ : Addr).add j) = ⟨b, o + j, none⟩ by unfold Addr.add; split <;> simp_all]
      exact (hcell _ hlt).1) (fun u hu => by
      obtain ⟨i, hi, rfl⟩ := List.mem_map.1 hu
      exact (hcell i (List.mem_range.1 hi)).2) (by unfold maxLen; omega) (by omega) (Nat.le_refl _)
  have hbel : Below w.heap.size w w' := (Below.refl _ _).grown hg (Nat.le_refl _) (fun k hk => by cases hk)
  rw [Nat.zero_add] at ho
  have hx : ∀ j, j < ts.length → ([] ++ (List.range (ts.length * 2)).map fun i => if i % 2 = 0 then Value.int .i64 (ts[i / 2]?.getD (.mk 0 [])).kind else V (i / 2))[j * 2]? = some (.int .i64 (ts[j]?.getD (.mk 0 [])).kind) ∧ ([] ++ (List.range (ts.length * 2)).map fun i => if i % 2 = 0 then Value.int .i64 (ts[i / 2]?.getD (.mk 0 [])).kind else V (i / 2))[j * 2 + 1]? = some (V j) := fun j hj2 => by
    simp only [List.nil_append, List.getElem?_map]
    rw [List.getElem?_range (by omega), List.getElem?_range (by omega)]
    simp only [Option.map_some]
    rw [if_pos (by omega), if_neg (by omega), show j * 2 / 2 = j by omega, show (j * 2 + 1) / 2 = j by omega]
    exact ⟨rfl, rfl⟩
  obtain ⟨hl, h1 | ⟨g, cap, cur, rfl, hgb, rest⟩⟩ := ho
  · exact absurd h1.2 h0
  · obtain ⟨r1, r2, r3⟩ := Row.of_owns (w := w') (base := w.heap.size) (g := g) (cap := cap) (n := ts.length) ⟨hl, Or.inr ⟨g, cap, cur, rfl, hgb, rest⟩⟩ hx
    exact ⟨_, w', hr, Or.inr ⟨g, cap, _, _, rfl, r2, r3, r1⟩, hbel⟩
theorem step_run {P : Program} {w w' : World} {ops : Array Oper} {o : Oper} {a : Act} {K : Act → World → Prop} {Q : Exit → Act → World → Prop} {E : Prop} {t : TypeId} {vs vx v' : Value} (hgd : o.guard = none) (s x : Operand)
    (ho : o.op = .call { callee := .builtin .append, args := #[s, x], argTypes := #[t, t] }) (hs : a.eval s = vs) (hx : a.eval x = vx) (hrun : (Builtin.append_ #[t, t] o.type #[vs, vx]).run P w = .ok v' w')
    (h : K (a.put o.dst v') w') : if Region.wanted o (yielded ops a.tmps) = true then Oper.wp P o a w K Q else E := by
  have hw : Region.wanted o (yielded ops a.tmps) = true := by simp [Region.wanted, hgd]
  rw [if_pos hw]
  unfold Oper.wp
  simp [execOp, ho, resolve, invoke, builtin, hs, hx, hrun, Result.andThen]
  exact h

def NodeRet (y : Ty) (p : Option Addr) (c : Nat) (W : World) (e : Ending) (W' : World) : Prop :=
  ∃ s', e = .returned (.tuple #[.agg #[.int .i64 y.kind, s'], .slice p y.args.length c]) ∧ Part W W' y.args.length s' ∧ Below W.heap.size W W'
theorem part_slice {W W' : World} {n : Nat} {s' : Value} (h : Part W W' n s') : ∃ p' c', s' = .slice p' n c' := by
  rcases h with ⟨rfl, rfl⟩ | ⟨b', cc, _, _, rfl, _⟩
  · exact ⟨_, _, rfl⟩
  · exact ⟨_, _, rfl⟩
theorem set2_below {B b i j : Nat} {W W' : World} {u v : Value} (h : Below B W W') (hb : B ≤ b) : Below B W ((W'.setCell ⟨b, i, none⟩ u).setCell ⟨b, j, none⟩ v) :=
  (h.setCell (p := ⟨b, i, none⟩) hb u).setCell (p := ⟨b, j, none⟩) hb v
theorem results_ct {fn : Func} {p q : Tmp} {ty : TypeId} (h : fn.results = #[.cell p ty, .tmp q]) (tmps : Array Value) (P : Program) (w : World) :
    (results fn tmps).run P w = ((asAddr (tmps.getD p undef)).run P w).andThen fun a w₁ => ((loadVar ty a).run P w₁).andThen fun v w₂ => .ok (.tuple #[v, tmps.getD q undef]) w₂ := by
  simp only [results, h]
  simp [Sem.run_bind, Result.andThen]
theorem part_set {w0 w W : World} {n b i j : Nat} {s' u v : Value} (h : Part w0 W n s') (hw : w.heap.size ≤ w0.heap.size) (hb : b < w0.heap.size) : Part w ((W.setCell ⟨b, i, none⟩ u).setCell ⟨b, j, none⟩ v) n s' := by
  rcases h with h | ⟨b', cc, K, S, h1, h2, h3, h4⟩
  · exact Or.inl h
  · refine Or.inr ⟨b', cc, K, S, h1, by omega, h3, h4.of_block ?_⟩
    rw [Below.heap_setCell _ _ _ _ (by show b' ≠ b; omega), Below.heap_setCell _ _ _ _ (by show b' ≠ b; omega)]
set_option maxRecDepth 100000 in
set_option maxHeartbeats 2000000 in
theorem copyN_any {C : Nat → Prop} {y : Ty} {p : Option Addr} {c : Nat} {w : World} (h : TS w C y.args (.slice p y.args.length c)) (hn : y.args.length ≤ 2097152) :
    Calls Tryd.prog 106 #[.agg #[.int .i64 y.kind, .slice p y.args.length c]] w (NodeRet y p c w) := by
  obtain ⟨w0, hw0, hs0, hb0, r0, r1⟩ := box_new2 w #[.int .i64 y.kind, .slice p y.args.length c] #[.int .i64 0, .slice none 0 0] 32 32
  obtain ⟨s', w', hrun, hpart, hbel⟩ := app_types (h.keep (hb0.drew)) hn 30
  obtain ⟨p', c', rfl⟩ := part_slice hpart
  have b0 := cell_of_blk r0 0
  have b1 := cell_of_blk r0 1
  have HP := Lib.hid hpart
  have HB := Lib.hid (hb0.drew.trans (hbel.mono hb0.drew.size))
  have hr0' : w'.heap[w.heap.size]? = _ := (hbel.block w.heap.size (by show w.heap.size < w0.heap.size; omega)).trans r0
  have hr1' : w'.heap[w.heap.size + 1]? = _ := (hbel.block (w.heap.size + 1) (by show w.heap.size + 1 < w0.heap.size; omega)).trans r1
  have e0 := cell_of_blk hr0' 0
  have e1 := cell_of_blk hr0' 1
  have d0 := cell_of_blk hr1' 0
  have d1 := cell_of_blk hr1' 1
  have dz := unfrozen_of_blk hr1'
  simp only [List.getElem?_toArray, List.getElem?_cons_zero, List.getElem?_cons_succ] at b0 b1 e0 e1 d0 d1
  have HS := Lib.hid (And.intro hs0 hr1')
  clear h hpart hbel hb0 r0 r1 hr0' hr1' hs0
  go_enter Tryd.func106, Tryd.ntmps106
  go_wp2_with fail
  go_region_law (first | (refine step_run rfl (.const (.slice none 0 0)) (.tmp 7) rfl rfl rfl hrun ?_))
  all_goals
    go_wp2_with fail
    refine bodyPost_ret (v := .tuple #[.agg #[.int .i64 y.kind, .slice p' y.args.length c'], .slice p y.args.length c]) ?_ rfl ?_
    · rw [results_ct rfl]
      go_simp
    · exact ⟨_, rfl, part_set HP.out (by show w.heap.size ≤ w0.heap.size; have := HS.out.1; omega) (by show w.heap.size + 1 < w0.heap.size; have := HS.out.1; omega), set2_below HB.out (by omega)⟩
end Go.Proofs.YtingnigiijdllaaDoor
namespace Go.Proofs.YtingnigiijdllaaDoor
open Go Go.RowKit
abbrev Jobs := List (Job × Value)
def tcells (st : Jobs) : List Value := st.flatMap fun e => [.int .i64 e.1.x.kind, e.2, .pointer (some ⟨e.1.b, e.1.o, none⟩)]
theorem tcells_length (st : Jobs) : (tcells st).length = st.length * 3 := by
  induction st with
  | nil => rfl
  | cons e st ih => simp only [tcells, List.flatMap_cons, List.length_append, List.length_cons, List.length_nil] at *; omega
theorem tcells_snoc (st : Jobs) (e : Job × Value) : tcells (st ++ [e]) = tcells st ++ [.int .i64 e.1.x.kind, e.2, .pointer (some ⟨e.1.b, e.1.o, none⟩)] := by simp [tcells]
theorem tcells_take (st : Jobs) (e : Job × Value) : (tcells (st ++ [e])).take (st.length * 3) = tcells st := by
  rw [tcells_snoc, ← tcells_length, List.take_left]
theorem tcells_last (st : Jobs) (e : Job × Value) : (tcells (st ++ [e]))[st.length * 3]? = some (.int .i64 e.1.x.kind) ∧ (tcells (st ++ [e]))[st.length * 3 + 1]? = some e.2 ∧ (tcells (st ++ [e]))[st.length * 3 + 2]? = some (.pointer (some ⟨e.1.b, e.1.o, none⟩)) := by
  have h := tcells_length st
  rw [tcells_snoc]
  refine ⟨?_, ?_, ?_⟩ <;> (rw [List.getElem?_append_right (by omega), h]; simp)
def tload (st : Jobs) : Nat := (st.map fun e => e.1.x.nodes).sum
theorem tload_snoc (st : Jobs) (e : Job × Value) : tload (st ++ [e]) = tload st + e.1.x.nodes := by simp [tload]
theorem tload_ge (st : Jobs) : st.length ≤ tload st := by
  induction st with
  | nil => simp [tload]
  | cons e st ih =>
    have := e.1.x.nodes_eq
    simp only [tload, List.map_cons, List.sum_cons, List.length_cons] at *
    omega
theorem infoTk : (Tryd.prog.info? 135).map (fun i => (i.zero, i.size, i.bytes)) = some (some (.agg #[.int .i64 0, .slice none 0 0, .pointer none]), 3, 40) := by kernel_rfl

theorem OS.bound {w : World} {F : Nat → Prop} {ts : List Ty} {v : Value} (h : OS w ts v F) : OS w ts v (fun b => F b ∧ b < w.heap.size) := by
  induction h with
  | none F => exact .none _
  | row K S G hrow hm hF hk hr hG hd ih =>
    exact .row K S (fun j b => G j b ∧ b < w.heap.size) hrow hm ⟨hF, hrow.lt⟩ hk ih (fun j x hj hx => ⟨⟨(hG j x hj hx.1).1, hx.2⟩, (hG j x hj hx.1).2⟩) (fun i j x hi hj hij h1 h2 => hd i j x hi hj hij h1.1 h2.1)

theorem loop_world3 (w : World) (A B A' : Array Value) (tA tB tA' : TypeId) : ∃ wl : World, ((w.alloc (.cells A tA)).alloc (.cells B tB)).alloc (.cells A' tA') = wl ∧ wl.heap.size = w.heap.size + 1 + 1 + 1 ∧ Below w.heap.size w wl ∧
    wl.heap[w.heap.size]? = some (.cells A tA (0, 0)) ∧ wl.heap[w.heap.size + 1]? = some (.cells B tB (0, 0)) ∧ wl.heap[w.heap.size + 1 + 1]? = some (.cells A' tA' (0, 0)) := by
  have s1 : (w.alloc (.cells A tA)).heap.size = w.heap.size + 1 := by simp
  have s2 : ((w.alloc (.cells A tA)).alloc (.cells B tB)).heap.size = w.heap.size + 1 + 1 := by simp
  refine ⟨_, rfl, by simp, (((Below.refl _ w).alloc (Nat.le_refl _) _).alloc (by simp) _).alloc (by simp; omega) _, ?_, ?_, ?_⟩
  · rw [Below.heap_alloc _ _ _ (by simp; omega), Below.heap_alloc _ _ _ (by simp)]
    exact blk_new _ _
  · rw [Below.heap_alloc _ _ _ (by simp), ← s1]
    exact blk_new _ _
  · rw [← s2]
    exact blk_new _ _

theorem cell_setCell_ne {w : World} {b o c q : Nat} {v : Value} (h : ¬ (c = b ∧ q = o)) : (w.setCell ⟨b, o, none⟩ v).cell? ⟨c, q, none⟩ = w.cell? ⟨c, q, none⟩ := by
  by_cases hc : c = b
  · subst hc
    have hq : q ≠ o := fun e => h ⟨rfl, e⟩
    unfold World.cell?
    simp only [World.setCell, Array.getElem?_modify]
    cases hw : w.heap[c]? with
    | none => simp
    | some ob =>
      simp only [if_true, Option.map_some]
      cases ob <;> simp [Array.getElem?_setIfInBounds_ne (Ne.symm hq)]
  · exact World.cell?_of_block (Below.heap_setCell _ _ _ _ hc)

theorem row_ne {w : World} {base : Nat} {e e' : TypeId} {size n g cap b : Nat} {xs : List Value} {cs : Array Value} {fr : Nat × Nat} (h : w.ownsRow base e size (.slice (some ⟨g, 0, none⟩) n cap) n xs) (hb : w.heap[b]? = some (.cells cs e' fr)) (hne : e' ≠ e) : g ≠ b := by
  rintro rfl
  rcases h.2 with h0 | ⟨g', cap', cur, hv, hg, hblk, _⟩
  · exact absurd h0.1 (by simp)
  · simp only [Value.slice.injEq, Option.some.injEq, Addr.mk.injEq, true_and, and_true] at hv
    obtain ⟨rfl, rfl⟩ := hv
    rw [hb] at hblk
    simp only [Option.some.injEq, Obj.cells.injEq] at hblk
    exact hne hblk.2.1

end Go.Proofs.YtingnigiijdllaaDoor
namespace Go.Proofs.YtingnigiijdllaaDoor
open Go Go.RowKit
abbrev Got := List (Ty × Value)
def ecells (st : Got) : List Value := st.flatMap fun e => [.int .i64 e.1.kind, e.2]
theorem ecells_snoc (st : Got) (e : Ty × Value) : ecells (st ++ [e]) = ecells st ++ [.int .i64 e.1.kind, e.2] := by simp [ecells]
theorem ecells_at (st : Got) (j : Nat) (h : j < st.length) : (ecells st)[j * 2]? = some (.int .i64 st[j].1.kind) ∧ (ecells st)[j * 2 + 1]? = some st[j].2 := by
  induction st generalizing j with
  | nil => simp at h
  | cons e st ih =>
    cases j with
    | zero => simp [ecells]
    | succ j =>
      have := ih j (by simpa using h)
      have e1 : ecells (e :: st) = [.int .i64 e.1.kind, e.2] ++ ecells st := by simp [ecells]
      rw [e1, List.getElem?_append_right (by simp; omega), List.getElem?_append_right (by simp; omega)]
      simp only [List.length_cons, List.length_nil]
      rw [show (j + 1) * 2 - (0 + 1 + 1) = j * 2 by omega, show (j + 1) * 2 + 1 - (0 + 1 + 1) = j * 2 + 1 by omega]
      exact this
structure Grow (w : World) (base : Nat) (v : Value) (st : Got) : Prop where
  own : w.ownsRow base 32 2 v st.length (ecells st)
  ts : ∀ e ∈ st, TS w (fun z => base ≤ z ∧ v.ownBlock ≠ some z) e.1.args e.2

theorem Grow.start (w : World) (base : Nat) : Grow w base (.slice none 0 0) [] := ⟨World.ownsRow_nil w base _ 2, fun e he => by cases he⟩
theorem Grow.below {w w' : World} {base : Nat} {v : Value} {st : Got} (h : Grow w base v st) (hb : Below w.heap.size w w') : Grow w' base v st := ⟨row_below h.own hb, fun e he => (h.ts e he).keep hb⟩
theorem Grow.app {w w' : World} {base : Nat} {v : Value} {st : Got} {g cap : Nat} {x : Ty} {s : Value} (h : Grow w base v st) (hA : Appd w w' base 32 2 v st.length (ecells st) [.int .i64 x.kind, s] g cap)
    (hx : TS w (fun z => base ≤ z ∧ v.ownBlock ≠ some z) x.args s) : Grow w' base (.slice (some ⟨g, 0, none⟩) (st.length + 1) cap) (st ++ [(x, s)]) := by
  have key : ∀ {ts : List Ty} {s : Value}, TS w (fun z => base ≤ z ∧ v.ownBlock ≠ some z) ts s → TS w' (fun z => base ≤ z ∧ (Value.slice (some ⟨g, 0, none⟩) (st.length + 1) cap).ownBlock ≠ some z) ts s := fun h1 =>
    (h1.mono (C' := fun z => base ≤ z ∧ v.ownBlock ≠ some z ∧ z < w.heap.size) (fun b hb hl => ⟨hb.1, hb.2, hl⟩)).stays ⟨hA.size, fun b hb hl => (hA.kept b hl hb.2.1).1⟩ |>.mono (fun b hb _ => ⟨hb.1, fun e => (hA.kept b hb.2.2 hb.2.1).2 (by simpa [Value.ownBlock] using e)⟩)
  refine ⟨?_, fun e he => ?_⟩
  · rw [List.length_append, ecells_snoc]
    exact hA.own
  · rcases List.mem_append.1 he with he | he
    · exact key (h.ts e he)
    · simp only [List.mem_singleton] at he
      subst he
      exact key hx
theorem Grow.set {w : World} {base : Nat} {v : Value} {st : Got} (h : Grow w base v st) (b o : Nat) (x : Value) (hb : b < base) : Grow (w.setCell ⟨b, o, none⟩ x) base v st := by
  refine ⟨⟨h.own.1, ?_⟩, fun e he => (h.ts e he).stays (setCell_stays _ _ _ _ _ (by omega))⟩
  rcases h.own.2 with h0 | ⟨g, cap, cur, rfl, hg, hblk, r⟩
  · exact Or.inl h0
  · exact Or.inr ⟨g, cap, cur, rfl, hg, (Below.heap_setCell _ _ _ _ (by show g ≠ b; omega)).trans hblk, r⟩
theorem Grow.all {w : World} {base : Nat} {v : Value} {st : Got} (h : Grow w base v st) : TS w (fun z => base ≤ z) (st.map (·.1)) v := by
  rcases h.own.2 with ⟨rfl, h0⟩ | ⟨g, cap, cur, rfl, hg, hblk, h1, h2, h3, h4⟩
  · obtain rfl := List.eq_nil_of_length_eq_zero h0
    exact .nil _ _
  · by_cases hz : st.length = 0
    · obtain rfl := List.eq_nil_of_length_eq_zero hz
      exact .nil _ _
    · have hlt := (Array.getElem?_eq_some_iff.1 hblk).1
      have hl : (st.map (·.1)).length = st.length := List.length_map _
      have at_ : ∀ j x, (st.map (·.1))[j]? = some x → ∃ hj : j < st.length, x = st[j].1 := fun j x hj => by
        rw [List.getElem?_map, Option.map_eq_some_iff] at hj
        obtain ⟨e, he, rfl⟩ := hj
        obtain ⟨hj, rfl⟩ := List.getElem?_eq_some_iff.1 he
        exact ⟨hj, rfl⟩
      have key := TS.cons (w := w) (C := fun z => base ≤ z) (ts := st.map (·.1)) (b := g) (o := 0) (c := cap) (fun j => (st[j]?.getD (.mk 0 [], .nilIface)).2) (by omega) (by omega) (by unfold maxLen at h2; omega) hg hlt
        (fun j x hj => by
          obtain ⟨hj', rfl⟩ := at_ j x hj
          rw [Nat.zero_add, h.own.cellAt (j * 2) (by omega), (ecells_at st j hj').1])
        (fun j x hj => by
          obtain ⟨hj', rfl⟩ := at_ j x hj
          rw [Nat.zero_add, h.own.cellAt (j * 2 + 1) (by omega), (ecells_at st j hj').2, List.getElem?_eq_getElem hj']
          rfl)
        (fun j x hj => by
          obtain ⟨hj', rfl⟩ := at_ j x hj
          rw [List.getElem?_eq_getElem hj']
          exact (h.ts _ (List.getElem_mem hj')).mono (fun b hb _ => hb.1))
      rw [hl] at key
      exact key
def NewR (t : Ty) (w : World) (e : Ending) (w' : World) : Prop := ∃ v, e = .returned v ∧ TT w' (fun z => w.heap.size ≤ z) t v ∧ Below w.heap.size w w'

end Go.Proofs.YtingnigiijdllaaDoor
namespace Go.Proofs.YtingnigiijdllaaDoor
open Go Go.RowKit

set_option maxRecDepth 100000 in
set_option maxHeartbeats 2000000 in
theorem copySp_any {w0 : World} {C : Nat → Prop} {ts : List Ty} {v : Value} (h : TS w0 C ts v) : ∀ (w : World) (q : Int), Stays C w0 w → nodesS ts ≤ 1048576 →
    Calls Tryd.prog 63 #[.agg #[.int .i64 q, v]] w (NewR (Ty.mk q ts) w) := by
  obtain ⟨i0, hi, hz0, hz1, hz2⟩ := info_parts infoTy
  refine TS.ind (motive := fun ts v => ∀ (w : World) (q : Int), Stays C w0 w → nodesS ts ≤ 1048576 → Calls Tryd.prog 63 #[.agg #[.int .i64 q, v]] w (NewR (Ty.mk q ts) w)) ?_ h
  intro ts p c hl H w q hst hn
  have HH := Lib.hid H
  have HST := Lib.hid hst
  have hlen := nodesS_ge ts
  clear H hst
  go_enter Tryd.func63, Tryd.ntmps63
  have HB0 := Lib.hid ((((Below.refl _ w).alloc (Nat.le_refl _) (.cells #[.int .i64 q, .slice p ts.length c] 32)).alloc (by simp) (.cells #[.int .i64 0, .slice none 0 0] 32)).alloc (by simp; omega) (.cells #[.int .i64 q, .slice none 0 0] 32))
  have hK := loop_world3 w #[.int .i64 q, .slice p ts.length c] #[.int .i64 0, .slice none 0 0] #[.int .i64 q, .slice none 0 0] 32 32 32
  have HK := Lib.hid hK
  clear hK
  go_wp2_with fail
  go_loopw [4] (fun i wr => ∃ (k : Nat) (es : Got) (v : Value), k ≤ ts.length ∧ i = .int .i64 k ∧ es.map (·.1) = ts.take k ∧ Grow wr (w.heap.size + 3) v es ∧ wr.heap[w.heap.size]? = some (.cells #[.int .i64 q, .slice p ts.length c] 32 (0, 0)) ∧
    wr.heap[w.heap.size + 1]? = some (.cells #[.int .i64 0, .slice none 0 0] 32 (0, 0)) ∧ wr.heap[w.heap.size + 1 + 1]? = some (.cells #[.int .i64 q, v] 32 (0, 0)) ∧ Below w.heap.size w wr ∧ w.heap.size + 3 ≤ wr.heap.size) (fun i _ => ts.length - (intOf i).toNat)
  case atStart =>
    obtain ⟨wl, hwl, hsz, hbl, q0, q1, q2⟩ := HK.out
    rw [hwl]
    exact ⟨0, [], _, Nat.zero_le _, rfl, by simp, Grow.start _ _, q0, q1, q2, hbl, by omega⟩
  case round =>
    obtain ⟨k, es, v, hk, rfl, hes, hgr, hx0, hx1, hx2, hbr, hsz⟩ := hrel
    have HES := Lib.hid hes
    have HGR := Lib.hid hgr
    have HX0 := Lib.hid hx0
    have HX1 := Lib.hid hx1
    have HX2 := Lib.hid hx2
    have HBR := Lib.hid hbr
    have d0 := cell_of_blk hx0 1
    have d2 := cell_of_blk hx2 0
    have d3 := cell_of_blk hx2 1
    have dz := unfrozen_of_blk hx2
    have r0 := cell_of_blk hx1 0
    have r1 := cell_of_blk hx1 1
    have rz := unfrozen_of_blk hx1
    simp only [List.getElem?_toArray, List.getElem?_cons_zero, List.getElem?_cons_succ] at d0 d2 d3 r0 r1
    clear hes hgr hx0 hx1 hx2 hbr
    by_cases hlk : k < ts.length
    · obtain ⟨b, o, p', c', rfl, hcs, hT, hI⟩ := HH.out k _ (List.getElem?_eq_getElem hlk)
      obtain ⟨f1, f2⟩ := hcs wr (HST.out.trans (Stays.of_below HBR.out))
      have hnk : nodesS ts[k].args ≤ 1048576 := by
        have h1 := nodesS_at ts k hlk
        have h2 := ts[k].nodes_eq
        omega
      have HC := Lib.hid (fun (W : World) (hW : Below w.heap.size w W) => hI W ts[k].kind (HST.out.trans (Stays.of_below hW)) hnk)
      rw [show Ty.mk ts[k].kind ts[k].args = ts[k] from (Ty.eta _).symm] at HC
      have HG := Lib.hid (fun (W : World) (hW : Below wr.drew.heap.size wr.drew W) => HGR.out.below ((Below.refl wr.heap.size wr).drew.trans hW))
      have HD := Lib.hid (fun (W : World) (hW : Below wr.drew.heap.size wr.drew W) => (cell_of_blk ((((Below.refl wr.heap.size wr).drew.trans hW).block _ (Array.getElem?_eq_some_iff.1 HX2.out).1).trans HX2.out) 1 : W.cell? ⟨w.heap.size + 1 + 1, 1, none⟩ = some v))
      have HDZ := Lib.hid (fun (W : World) (hW : Below wr.drew.heap.size wr.drew W) => unfrozen_of_blk ((((Below.refl wr.heap.size wr).drew.trans hW).block _ (Array.getElem?_eq_some_iff.1 HX2.out).1).trans HX2.out))
      have hek : es.length = k := by
        have := congrArg List.length HES.out
        simp only [List.length_map, List.length_take] at this
        omega
      have HEK := Lib.hid hek
      have hbr' := HBR.out
      have hbw : b < w.heap.size := World.block_lt_of_cell? w _ (hcs w HST.out).1
      have HKA := Lib.hid (fun (W : World) (hW : Below wr.drew.heap.size wr.drew W) (x1 x2 : Value) (w' : World) (g2 cap2 : Nat) (hA : Appd W w' (w.heap.size + 3) 32 2 v es.length (ecells es) [x1, x2] g2 cap2) =>
        have kk : ∀ {p : Addr} {u : Value}, wr.cell? p = some u → p.block < w.heap.size + 3 → w'.cell? p = some u := fun {p u} hp hlt =>
          keepApp hA (((((Below.refl wr.heap.size wr).drew.trans hW).cell (World.block_lt_of_cell? wr _ hp)).trans hp) : W.cell? p = some u) (fun e => by have := (HGR.out.own.lt _ e).1; omega)
        (⟨kk d0 (by show w.heap.size < _; omega), kk f1 (by show b < _; omega), kk f2 (by show b < _; omega)⟩ :
          w'.cell? ⟨w.heap.size, 1, none⟩ = some (.slice (some ⟨b, o, none⟩) ts.length c) ∧ w'.cell? ⟨b, o + k * 2, none⟩ = some (.int .i64 ts[k].kind) ∧ w'.cell? ⟨b, o + k * 2 + 1, none⟩ = some (.slice p' ts[k].args.length c')))
      have HKB := Lib.hid (fun (W : World) (hW : Below wr.drew.heap.size wr.drew W) (x1 x2 : Value) (w' : World) (g2 cap2 : Nat) (hA : Appd W w' (w.heap.size + 3) 32 2 v es.length (ecells es) [x1, x2] g2 cap2) =>
        have hB := (((Below.refl wr.heap.size wr).drew.trans hW).block _ (Array.getElem?_eq_some_iff.1 HX2.out).1).trans HX2.out
        (((hA.kept (w.heap.size + 1 + 1) (Array.getElem?_eq_some_iff.1 hB).1 (fun e => by have := (HGR.out.own.lt _ e).1; omega)).1.trans hB) : w'.heap[w.heap.size + 1 + 1]? = some (.cells #[.int .i64 q, v] 32 (0, 0))))
      have i0' : (0 : Int) ≤ (k : Int) := Int.natCast_nonneg _
      have i1' : (k : Int) < (ts.length : Int) := by omega
      clear hcs hT hI r0 r1 rz d2 hek
      go_wp2_with fail
      go_region_law (first
          | (refine step_app1 (w0 := w1) (v := v) (n := es.length) (xs := ecells es) rfl (.tmp 16) (.tmp 23) rfl Tryd.underlying30 hi hz0 hz1 hz2 rfl (by decide) rfl (HG.out w1 hb1).own _ rfl (by simp) rfl (fun u hu => by simp at hu; rcases hu with rfl | rfl <;> rfl) (by have := HEK.out; unfold maxLen; omega) (by have := HEK.out; omega) (by have := hb1.size; simp at this; omega) ?_; intro w' g2 cap2 hA; have d6b := HKB.out _ hb1 _ _ _ _ _ hA; have d6 : w'.cell? ⟨w.heap.size + 1 + 1, 1, none⟩ = some v := cell_of_blk d6b 1; have d6z := unfrozen_of_blk d6b)
          | (go_simp; go_at_call 63; refine (HC.out _ hbr'.drew).mono ?_; rintro e w1 ⟨v1, rfl, ⟨s1, rfl, hs1⟩, hb1⟩; obtain ⟨p1, c1, rfl⟩ := hs1.form; have d4 := HD.out w1 hb1; have d4z := HDZ.out w1 hb1; have d5 := fun (o : Obj) => (((Below.refl w1.heap.size w1).alloc (Nat.le_refl _) o).cell (World.block_lt_of_cell? w1 _ d4)).trans d4))
      all_goals
        have HA := Lib.hid hA
        have HS1 := Lib.hid hs1
        have HB1 := Lib.hid hb1
        clear hA hs1 hb1 d4 d4z d5 d6 d6b d6z
        go_wp2_with fail
        go_roundw
        case rel =>
          have hd := (Below.refl wr.heap.size wr).drew.trans HB1.out
          have hsw := hd.size
          have hown := HGR.out.own.lt
          have x0 := (hd.block _ (Array.getElem?_eq_some_iff.1 HX0.out).1).trans HX0.out
          have x1 := (hd.block _ (Array.getElem?_eq_some_iff.1 HX1.out).1).trans HX1.out
          have x0' := (HA.out.kept w.heap.size (Array.getElem?_eq_some_iff.1 x0).1 (fun e => by have := (hown _ e).1; omega)).1.trans x0
          have x1' := (HA.out.kept (w.heap.size + 1) (Array.getElem?_eq_some_iff.1 x1).1 (fun e => by have := (hown _ e).1; omega)).1.trans x1
          refine ⟨k + 1, es ++ [(ts[k], .slice p1 ts[k].args.length c1)], .slice (some ⟨g2, 0, none⟩) (es.length + 1) cap2, by omega, by go_num, ?_, ?_, ?_, ?_, ?_, ?_, ?_⟩
          · rw [List.map_append, HES.out, List.take_add_one, List.getElem?_eq_getElem hlk]
            rfl
          · refine ((HG.out w1 HB1.out).app HA.out (HS1.out.mono fun z hz _ => ⟨?_, fun e => ?_⟩)).set _ _ _ (by omega)
            · have : wr.heap.size ≤ z := hz
              omega
            · have h1 : wr.heap.size ≤ z := hz
              have h2 := (hown _ e).2
              omega
          · exact (Below.heap_setCell _ _ _ _ (by show w.heap.size ≠ w.heap.size + 1 + 1; omega)).trans x0'
          · exact (Below.heap_setCell _ _ _ _ (by show w.heap.size + 1 ≠ w.heap.size + 1 + 1; omega)).trans x1'
          · rw [Go.Joins.block_setCell (HKB.out _ HB1.out _ _ _ _ _ HA.out) _]
            rfl
          · exact (HBR.out.trans ((hd.mono HBR.out.size).trans (HA.out.below.mono (by omega)))).setCell (p := ⟨w.heap.size + 1 + 1, 1, none⟩) (by show w.heap.size ≤ w.heap.size + 1 + 1; omega) _
          · have := HA.out.size
            simp [World.setCell]
            omega
        case measure => simp [intOf]; omega
    · obtain rfl : k = ts.length := by omega
      have hT := HGR.out.all
      rw [HES.out, List.take_length] at hT
      obtain ⟨pv, cv, hv⟩ := hT.form
      rw [hv] at d3 hT
      have HT := Lib.hid hT
      clear hT hv HES HGR HX2
      go_wp2_with fail
      refine bodyPost_ret (v := .agg #[.int .i64 q, .slice pv ts.length cv]) ?_ rfl ?_
      · rw [results_cell1 rfl]
        go_simp
      · have hst : ∀ F : Nat → Prop, ¬ F (w.heap.size + 1) → Stays F wr ((wr.setCell ⟨w.heap.size + 1, 0, none⟩ (.int .i64 q)).setCell ⟨w.heap.size + 1, 1, none⟩ (.slice pv ts.length cv)) := fun F hF => (setCell_stays _ _ _ _ F hF).trans (setCell_stays _ _ _ _ F hF)
        refine ⟨_, rfl, ⟨_, rfl, (HT.out.stays (hst _ (by omega))).mono (fun b hb _ => by omega)⟩, (HBR.out.setCell (p := ⟨w.heap.size + 1, 0, none⟩) (by show w.heap.size ≤ w.heap.size + 1; omega) _).setCell (p := ⟨w.heap.size + 1, 1, none⟩) (by show w.heap.size ≤ w.heap.size + 1; omega) _⟩
end Go.Proofs.YtingnigiijdllaaDoor
namespace Go.Proofs.YtingnigiijdllaaDoor
open Go Go.RowKit

end Go.Proofs.YtingnigiijdllaaDoor
namespace Go.Proofs.YtingnigiijdllaaDoor
open Go Go.RowKit

theorem al_cell {w : World} {b i : Nat} {v : Value} (h : w.cell? ⟨b, i, none⟩ = some v) (o : Obj) : (w.alloc o).cell? ⟨b, i, none⟩ = some v :=
  (((Below.refl w.heap.size w).alloc (Nat.le_refl _) o).cell (World.block_lt_of_cell? w _ h)).trans h
theorem copyT_any {C : Nat → Prop} {t : Ty} {v : Value} {w : World} (h : TT w C t v) (hn : nodesS t.args ≤ 1048576) : Calls Tryd.prog 63 #[v] w (NewR t w) := by
  obtain ⟨s, rfl, h⟩ := h
  have := copySp_any h w t.kind (Stays.refl _ _) hn
  rwa [← Ty.eta t] at this

end Go.Proofs.YtingnigiijdllaaDoor
