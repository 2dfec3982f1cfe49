/-
  The contracts of the model's functions on levels: l8Next, l8Ok, LevelsOk, l8Plain, IsPlain, l8Made, IsGenerated, CountSplices, l8Highest, HighestLevel.
-/
import Derived.Test.YtfeijijeohfpgaaDoorLvP
import Derived.Test.YtfeijijeohfpgaaDoorTmAny
import Derived.Test.YtfeijijeohfpgaaDoorTmEq
namespace Go.Proofs.YtfeijijeohfpgaaDoor
open Go Go.RowKit

variable {C : Nat → Prop}

set_option maxRecDepth 100000 in
set_option maxHeartbeats 1000000 in
theorem nextS_any (t : Tm) (tp : Option Addr) (tc : Nat) (rp : Option Addr) (rc : Nat) (p : Option Addr) (c : Nat) (n : Int) (w : World) :
    Calls Tryd.prog 57 #[tmV t tp tc rp rc p c, .int .i64 n] w fun e w' => e = .returned (.int .i64 (nextL t.kind n)) ∧ Below w.heap.size w w' := by
  have hn1 : t.kind = 10 → nextL t.kind n = wrap64 (n + 1) := fun h => by unfold nextL; rw [if_pos h]
  have hn2 : t.kind = 11 → nextL t.kind n = wrap64 (n - 1) := fun h => by unfold nextL; rw [if_neg (by omega), if_pos h]
  have hn3 : ¬ t.kind = 10 → ¬ t.kind = 11 → nextL t.kind n = n := fun h h2 => by unfold nextL; rw [if_neg h, if_neg h2]
  have HB0 := Lib.hid (al_below w (.cells (tmC t tp tc rp rc p c) 35))
  generalize nextL t.kind n = r at hn1 hn2 hn3 ⊢
  obtain ⟨g0, _, _, _, _, _, _, _, _⟩ := Bx9.new w t tp tc rp rc p c 35
  by_cases h1 : t.kind = 10
  · obtain rfl := hn1 h1
    have t1 : (t.kind == 10) = true := by simp [h1]
    clear hn1 hn2 hn3 h1
    go_enter Tryd.func57, Tryd.ntmps57
    go_wp2_with fail
    go_ret
    exact ⟨rfl, HB0.out⟩
  · by_cases h2 : t.kind = 11
    · obtain rfl := hn2 h2
      have t1 : (t.kind == 10) = false := by simp [h1]
      have t2 : (t.kind == 11) = true := by simp [h2]
      clear hn1 hn2 hn3 h1 h2
      go_enter Tryd.func57, Tryd.ntmps57
      go_wp2_with fail
      go_ret
      exact ⟨rfl, HB0.out⟩
    · obtain rfl := hn3 h1 h2
      have t1 : (t.kind == 10) = false := by simp [h1]
      have t2 : (t.kind == 11) = false := by simp [h2]
      clear hn1 hn2 hn3 h1 h2
      go_enter Tryd.func57, Tryd.ntmps57
      go_wp2_with fail
      go_ret
      exact ⟨rfl, HB0.out⟩
#print axioms nextS_any







set_option maxRecDepth 100000 in
set_option maxHeartbeats 4000000 in
theorem l8Ok_any : ∀ (m : Nat) {t : Tm} {tp : Option Addr} {tc : Nat} {rp : Option Addr} {rc : Nat} {p : Option Addr} {c : Nat} (n : Int) (w : World), t.nodes ≤ m → TM' w C t tp tc rp rc p c → t.wt ≤ 2097152 → Calls Tryd.prog 32 #[tmV t tp tc rp rc p c, .int .i64 n] w (Tells (t.lvOk n) w)
  | 0, t, tp, tc, rp, rc, p, c, n, w, hm, hT, hn => by rw [t.nodes_eq] at hm; omega
  | m + 1, t, tp, tc, rp, rc, p, c, n, w, hm, hT, hn => by
    have HT := Lib.hid hT
    have HX0 := Lib.hid (Bx9.new w t tp tc rp rc p c 35)
    have HB0 := Lib.hid (al_below w (.cells (tmC t tp tc rp rc p c) 35))
    have hne := t.nodes_eq
    have hwe := t.wt_eq
    have hlen := wtS_ge t.args
    have HM := Lib.hid hm
    have HNE := Lib.hid hne
    have HWE := Lib.hid hwe
    have HWN := Lib.hid hn
    have HLE := Lib.hid ((t.lvOk_eq n).trans (and_congr_right fun _ => lvOkS_iff _ _))
    have hwa : wtS t.args ≤ 2097152 := by omega
    clear hT hne hwe hm hn
    go_enter Tryd.func32, Tryd.ntmps32
    go_wp2_with fail
    refine (in_any n 0 2 _).mono ?_
    rintro e w1 ⟨rfl, rfl⟩
    by_cases hin : 0 ≤ n ∧ n ≤ 2
    rotate_left
    · rw [decide_eq_false hin]
      have HIN := Lib.hid hin
      clear hin
      go_wp2_with fail
      go_ret
      exact ⟨false, by simp only [Bool.false_eq_true, false_iff]; exact fun h => HIN.out (HLE.out.1 h).1, rfl, HB0.out⟩
    rw [decide_eq_true hin]
    have HIN := Lib.hid hin
    clear hin
    go_wp2_with fail
    go_loopw [5] (fun i wr => ∃ (k : Nat), k ≤ t.args.length ∧ i = .int .i64 k ∧ (∀ x ∈ t.args.take k, (x.lvOk (nextL t.kind n))) ∧ Below (w.alloc (.cells (tmC t tp tc rp rc p c) 35)).heap.size (w.alloc (.cells (tmC t tp tc rp rc p c) 35)) wr) (fun i _ => t.args.length - (intOf i).toNat)
    case atStart => exact ⟨0, Nat.zero_le _, rfl, by simp, Below.refl _ _⟩
    case round =>
      obtain ⟨k, hk, rfl, hts, hbr⟩ := hrel
      have HTS := Lib.hid hts
      have HBR := Lib.hid hbr
      have HBW := Lib.hid (HB0.out.trans (hbr.mono HB0.out.size))
      obtain ⟨d0, d1, d2, d3, d4, d5, d6, d7, d8⟩ := HX0.out.keep hbr
      clear hbr hts
      by_cases hlk : k < t.args.length
      · obtain ⟨b, o, tp2, tc2, rp2, rc2, p2, c2, rfl, hC, hb, h9, hP⟩ := tm_part HT.out.args k hlk
        obtain ⟨g0, g1, g2, g3, g4, g5, g6, g7, g8⟩ := h9 wr (.of_below HBW.out)
        have n4 := nodesM_at t.args k hlk
        have n5 := wtS_at t.args k hlk
        have hmk : t.args[k].nodes ≤ m := by have := HM.out; have := HNE.out; omega
        have hi0 : (0 : Int) ≤ (k : Int) := Int.natCast_nonneg _
        have hi1 : (k : Int) < (t.args.length : Int) := by omega
        have HC := Lib.hid (fun (W : World) (hb : Below wr.heap.size wr W) => l8Ok_any m (nextL t.kind n) W hmk (hP.stays (.of_below (HBW.out.trans (hb.mono HBW.out.size)))) (by omega))
        clear hC hb h9 hP n4 n5 hmk
        go_wp2_with fail
        go_region_held3 (fun w' => w'.cell? ⟨w.heap.size, 0, none⟩ = some (.int .i64 t.kind) ∧ w'.cell? ⟨w.heap.size, 1, none⟩ = some (.string t.name) ∧ w'.cell? ⟨w.heap.size, 2, none⟩ = some (.string t.other) ∧ w'.cell? ⟨w.heap.size, 3, none⟩ = some (.int .i64 t.n) ∧ w'.cell? ⟨w.heap.size, 4, none⟩ = some (.int .i64 t.ty.kind) ∧ w'.cell? ⟨w.heap.size, 5, none⟩ = some (.slice tp t.ty.args.length tc) ∧ w'.cell? ⟨w.heap.size, 6, none⟩ = some (.int .i64 t.res.kind) ∧ w'.cell? ⟨w.heap.size, 7, none⟩ = some (.slice rp t.res.args.length rc) ∧ w'.cell? ⟨w.heap.size, 8, none⟩ = some (.slice (some ⟨b, o, none⟩) t.args.length c) ∧ w'.cell? ⟨b, o + k * 9, none⟩ = some (.int .i64 t.args[k].kind) ∧ w'.cell? ⟨b, o + k * 9 + 1, none⟩ = some (.string t.args[k].name) ∧ w'.cell? ⟨b, o + k * 9 + 2, none⟩ = some (.string t.args[k].other) ∧ w'.cell? ⟨b, o + k * 9 + 3, none⟩ = some (.int .i64 t.args[k].n) ∧ w'.cell? ⟨b, o + k * 9 + 4, none⟩ = some (.int .i64 t.args[k].ty.kind) ∧ w'.cell? ⟨b, o + k * 9 + 5, none⟩ = some (.slice tp2 t.args[k].ty.args.length tc2) ∧ w'.cell? ⟨b, o + k * 9 + 6, none⟩ = some (.int .i64 t.args[k].res.kind) ∧ w'.cell? ⟨b, o + k * 9 + 7, none⟩ = some (.slice rp2 t.args[k].res.args.length rc2) ∧ w'.cell? ⟨b, o + k * 9 + 8, none⟩ = some (.slice p2 t.args[k].args.length c2) ∧ Below wr.heap.size wr w')
          (first
            | (go_keep; done)
            | exact ⟨d0, d1, d2, d3, d4, d5, d6, d7, d8, g0, g1, g2, g3, g4, g5, g6, g7, g8, (Below.refl _ _).drew⟩
            | exact keep18 hb7 (by assumption)
            | exact keep18 hb6 (by assumption))
          (first
            | (go_at_call 57; refine (nextS_any t tp tc rp rc (some ⟨b, o, none⟩) c n _).mono ?_; rintro e w6 ⟨rfl, hb6⟩)
            | (go_at_call 32; refine (HC.out _ ((Below.refl _ _).drew.trans hb6)).mono ?_; rintro e w7 ⟨r, hr, rfl, hb7⟩))
        rename_i hH
        have hb2 := hH.2.2.2.2.2.2.2.2.2.2.2.2.2.2.2.2.2.2
        have HB2 := Lib.hid (HBR.out.trans (hb2.mono HBR.out.size))
        clear hH hb6 hb7 g0 g1 g2 g3 g4 g5 g6 g7 g8
        have HR := Lib.hid hr
        clear hr hb2
        cases hr0 : r
        · have hnf : ¬ (t.args[k].lvOk (nextL t.kind n)) := fun h => by have := HR.out.2 h; rw [hr0] at this; cases this
          have HF := Lib.hid hnf
          clear hnf
          subst hr0
          go_wp2_with fail
          go_ret
          exact ⟨false, by simp only [Bool.false_eq_true, false_iff]; exact fun h => HF.out ((HLE.out.1 h).2 _ (List.getElem_mem hlk)), rfl, box_rest HB2.out⟩
        · have HF := Lib.hid (HR.out.1 hr0)
          subst hr0
          go_wp2_with fail
          go_roundw
          case rel => exact ⟨k + 1, by omega, by go_num, (take_all hlk).2 ⟨HTS.out, HF.out⟩, HB2.out⟩
          case measure => simp [intOf]; omega
      · obtain rfl : k = t.args.length := by omega
        have hall := HTS.out
        rw [List.take_length] at hall
        have HALL := Lib.hid hall
        clear hall
        go_wp2_with fail
        go_ret
        exact ⟨true, by simp only [true_iff]; exact HLE.out.2 ⟨HIN.out, HALL.out⟩, rfl, HBW.out⟩

set_option maxRecDepth 100000 in
set_option maxHeartbeats 4000000 in
theorem l8Made_any : ∀ (m : Nat) {t : Tm} {tp : Option Addr} {tc : Nat} {rp : Option Addr} {rc : Nat} {p : Option Addr} {c : Nat} (n : Int) (w : World), t.nodes ≤ m → TM' w C t tp tc rp rc p c → t.wt ≤ 2097152 → Calls Tryd.prog 39 #[tmV t tp tc rp rc p c, .int .i64 n] w (Tells (t.made n) w)
  | 0, t, tp, tc, rp, rc, p, c, n, w, hm, hT, hn => by rw [t.nodes_eq] at hm; omega
  | m + 1, t, tp, tc, rp, rc, p, c, n, w, hm, hT, hn => by
    have HT := Lib.hid hT
    have HX0 := Lib.hid (Bx9.new w t tp tc rp rc p c 35)
    have HB0 := Lib.hid (al_below w (.cells (tmC t tp tc rp rc p c) 35))
    have hne := t.nodes_eq
    have hwe := t.wt_eq
    have hlen := wtS_ge t.args
    have HM := Lib.hid hm
    have HNE := Lib.hid hne
    have HWE := Lib.hid hwe
    have HWN := Lib.hid hn
    have HLE := Lib.hid ((t.made_eq n).trans (and_congr_right fun _ => madeS_iff _ _))
    have hwa : wtS t.args ≤ 2097152 := by omega
    clear hT hne hwe hm hn
    go_enter Tryd.func39, Tryd.ntmps39
    obtain ⟨c0, _, _, _, _, _, _, _, _⟩ := HX0.out
    by_cases hin : t.kind = 11 ∧ n = 1
    · have t1 : (t.kind == 11) = true := by simp [hin.1]
      have t2 : (n == 1) = true := by simp [hin.2]
      have HIN := Lib.hid hin
      clear hin
      go_wp2_with fail
      go_ret
      exact ⟨false, by simp only [Bool.false_eq_true, false_iff]; exact fun h => (HLE.out.1 h).1 HIN.out, rfl, HB0.out⟩
    have HIN := Lib.hid hin
    have HTW := Lib.hid (show (t.kind == 11) = true ∧ (n == 1) = false ∨ (t.kind == 11) = false by
      by_cases h : t.kind = 11
      · exact Or.inl ⟨by simp [h], by simp; exact fun h2 => hin ⟨h, h2⟩⟩
      · exact Or.inr (by simp [h]))
    clear hin
    rcases HTW.out with ⟨t1, t2⟩ | t1
    all_goals
      go_wp2_with fail
      clear c0 t1
      try clear t2
      go_loopw [5] (fun i wr => ∃ (k : Nat), k ≤ t.args.length ∧ i = .int .i64 k ∧ (∀ x ∈ t.args.take k, (x.made (nextL t.kind n))) ∧ Below (w.alloc (.cells (tmC t tp tc rp rc p c) 35)).heap.size (w.alloc (.cells (tmC t tp tc rp rc p c) 35)) wr) (fun i _ => t.args.length - (intOf i).toNat)
      case atStart => exact ⟨0, Nat.zero_le _, rfl, by simp, Below.refl _ _⟩
      case round =>
        obtain ⟨k, hk, rfl, hts, hbr⟩ := hrel
        have HTS := Lib.hid hts
        have HBR := Lib.hid hbr
        have HBW := Lib.hid (HB0.out.trans (hbr.mono HB0.out.size))
        obtain ⟨d0, d1, d2, d3, d4, d5, d6, d7, d8⟩ := HX0.out.keep hbr
        clear hbr hts
        by_cases hlk : k < t.args.length
        · obtain ⟨b, o, tp2, tc2, rp2, rc2, p2, c2, rfl, hC, hb, h9, hP⟩ := tm_part HT.out.args k hlk
          obtain ⟨g0, g1, g2, g3, g4, g5, g6, g7, g8⟩ := h9 wr (.of_below HBW.out)
          have n4 := nodesM_at t.args k hlk
          have n5 := wtS_at t.args k hlk
          have hmk : t.args[k].nodes ≤ m := by have := HM.out; have := HNE.out; omega
          have hi0 : (0 : Int) ≤ (k : Int) := Int.natCast_nonneg _
          have hi1 : (k : Int) < (t.args.length : Int) := by omega
          have HC := Lib.hid (fun (W : World) (hb : Below wr.heap.size wr W) => l8Made_any m (nextL t.kind n) W hmk (hP.stays (.of_below (HBW.out.trans (hb.mono HBW.out.size)))) (by omega))
          clear hC hb h9 hP n4 n5 hmk
          go_wp2_with fail
          go_region_held3 (fun w' => w'.cell? ⟨w.heap.size, 0, none⟩ = some (.int .i64 t.kind) ∧ w'.cell? ⟨w.heap.size, 1, none⟩ = some (.string t.name) ∧ w'.cell? ⟨w.heap.size, 2, none⟩ = some (.string t.other) ∧ w'.cell? ⟨w.heap.size, 3, none⟩ = some (.int .i64 t.n) ∧ w'.cell? ⟨w.heap.size, 4, none⟩ = some (.int .i64 t.ty.kind) ∧ w'.cell? ⟨w.heap.size, 5, none⟩ = some (.slice tp t.ty.args.length tc) ∧ w'.cell? ⟨w.heap.size, 6, none⟩ = some (.int .i64 t.res.kind) ∧ w'.cell? ⟨w.heap.size, 7, none⟩ = some (.slice rp t.res.args.length rc) ∧ w'.cell? ⟨w.heap.size, 8, none⟩ = some (.slice (some ⟨b, o, none⟩) t.args.length c) ∧ w'.cell? ⟨b, o + k * 9, none⟩ = some (.int .i64 t.args[k].kind) ∧ w'.cell? ⟨b, o + k * 9 + 1, none⟩ = some (.string t.args[k].name) ∧ w'.cell? ⟨b, o + k * 9 + 2, none⟩ = some (.string t.args[k].other) ∧ w'.cell? ⟨b, o + k * 9 + 3, none⟩ = some (.int .i64 t.args[k].n) ∧ w'.cell? ⟨b, o + k * 9 + 4, none⟩ = some (.int .i64 t.args[k].ty.kind) ∧ w'.cell? ⟨b, o + k * 9 + 5, none⟩ = some (.slice tp2 t.args[k].ty.args.length tc2) ∧ w'.cell? ⟨b, o + k * 9 + 6, none⟩ = some (.int .i64 t.args[k].res.kind) ∧ w'.cell? ⟨b, o + k * 9 + 7, none⟩ = some (.slice rp2 t.args[k].res.args.length rc2) ∧ w'.cell? ⟨b, o + k * 9 + 8, none⟩ = some (.slice p2 t.args[k].args.length c2) ∧ Below wr.heap.size wr w')
            (first
              | (go_keep; done)
              | exact ⟨d0, d1, d2, d3, d4, d5, d6, d7, d8, g0, g1, g2, g3, g4, g5, g6, g7, g8, (Below.refl _ _).drew⟩
              | exact keep18 hb7 (by assumption)
              | exact keep18 hb6 (by assumption))
            (first
              | (go_at_call 57; refine (nextS_any t tp tc rp rc (some ⟨b, o, none⟩) c n _).mono ?_; rintro e w6 ⟨rfl, hb6⟩)
              | (go_at_call 39; refine (HC.out _ ((Below.refl _ _).drew.trans hb6)).mono ?_; rintro e w7 ⟨r, hr, rfl, hb7⟩))
          rename_i hH
          have hb2 := hH.2.2.2.2.2.2.2.2.2.2.2.2.2.2.2.2.2.2
          have HB2 := Lib.hid (HBR.out.trans (hb2.mono HBR.out.size))
          clear hH hb6 hb7 g0 g1 g2 g3 g4 g5 g6 g7 g8
          have HR := Lib.hid hr
          clear hr hb2
          cases hr0 : r
          · have hnf : ¬ (t.args[k].made (nextL t.kind n)) := fun h => by have := HR.out.2 h; rw [hr0] at this; cases this
            have HF := Lib.hid hnf
            clear hnf
            subst hr0
            go_wp2_with fail
            go_ret
            exact ⟨false, by simp only [Bool.false_eq_true, false_iff]; exact fun h => HF.out ((HLE.out.1 h).2 _ (List.getElem_mem hlk)), rfl, box_rest HB2.out⟩
          · have HF := Lib.hid (HR.out.1 hr0)
            subst hr0
            go_wp2_with fail
            go_roundw
            case rel => exact ⟨k + 1, by omega, by go_num, (take_all hlk).2 ⟨HTS.out, HF.out⟩, HB2.out⟩
            case measure => simp [intOf]; omega
        · obtain rfl : k = t.args.length := by omega
          have hall := HTS.out
          rw [List.take_length] at hall
          have HALL := Lib.hid hall
          clear hall
          go_wp2_with fail
          go_ret
          exact ⟨true, by simp only [true_iff]; exact HLE.out.2 ⟨HIN.out, HALL.out⟩, rfl, HBW.out⟩

set_option maxRecDepth 100000 in
set_option maxHeartbeats 4000000 in
theorem l8High_any : ∀ (m : Nat) {t : Tm} {tp : Option Addr} {tc : Nat} {rp : Option Addr} {rc : Nat} {p : Option Addr} {c : Nat} (n : Int) (w : World), t.nodes ≤ m → TM' w C t tp tc rp rc p c → t.wt ≤ 2097152 → Calls Tryd.prog 41 #[tmV t tp tc rp rc p c, .int .i64 n] w (IntRet (fun r => r = t.high n) w)
  | 0, t, tp, tc, rp, rc, p, c, n, w, hm, hT, hn => by rw [t.nodes_eq] at hm; omega
  | m + 1, t, tp, tc, rp, rc, p, c, n, w, hm, hT, hn => by
    have HT := Lib.hid hT
    have HX0 := Lib.hid (Bx9.new w t tp tc rp rc p c 35)
    have HB0 := Lib.hid (al_below w (.cells (tmC t tp tc rp rc p c) 35))
    have hne := t.nodes_eq
    have hwe := t.wt_eq
    have hlen := wtS_ge t.args
    have HM := Lib.hid hm
    have HNE := Lib.hid hne
    have HHE := Lib.hid (t.high_eq n)
    have hwa : wtS t.args ≤ 2097152 := by omega
    clear hT hne hwe hm hn
    go_enter Tryd.func41, Tryd.ntmps41
    go_wp2_with fail
    go_loopw [5, 6] (fun q i wr => ∃ (k : Nat), k ≤ t.args.length ∧ i = .int .i64 k ∧ q = .int .i64 (highS (t.args.take k) (nextL t.kind n) n) ∧ Below (w.alloc (.cells (tmC t tp tc rp rc p c) 35)).heap.size (w.alloc (.cells (tmC t tp tc rp rc p c) 35)) wr) (fun _ i _ => t.args.length - (intOf i).toNat)
    case atStart => exact ⟨0, Nat.zero_le _, rfl, by simp [highS], Below.refl _ _⟩
    case round =>
      obtain ⟨k, hk, rfl, rfl, hbr⟩ := hrel
      have HBR := Lib.hid hbr
      have HBW := Lib.hid (HB0.out.trans (hbr.mono HB0.out.size))
      obtain ⟨d0, d1, d2, d3, d4, d5, d6, d7, d8⟩ := HX0.out.keep hbr
      clear hbr
      by_cases hlk : k < t.args.length
      · obtain ⟨b, o, tp2, tc2, rp2, rc2, p2, c2, rfl, hC, hb, h9, hP⟩ := tm_part HT.out.args k hlk
        obtain ⟨g0, g1, g2, g3, g4, g5, g6, g7, g8⟩ := h9 wr (.of_below HBW.out)
        have n4 := nodesM_at t.args k hlk
        have n5 := wtS_at t.args k hlk
        have hmk : t.args[k].nodes ≤ m := by have := HM.out; have := HNE.out; omega
        have hi0 : (0 : Int) ≤ (k : Int) := Int.natCast_nonneg _
        have hi1 : (k : Int) < (t.args.length : Int) := by omega
        have HC := Lib.hid (fun (W : World) (hb : Below wr.heap.size wr W) => l8High_any m (nextL t.kind n) W hmk (hP.stays (.of_below (HBW.out.trans (hb.mono HBW.out.size)))) (by omega))
        have HHT := Lib.hid (highS_take t.args (nextL t.kind n) n k hlk)
        clear hC hb h9 hP n4 n5 hmk
        go_wp2_with fail
        go_region_held3 (fun w' => w'.cell? ⟨w.heap.size, 0, none⟩ = some (.int .i64 t.kind) ∧ w'.cell? ⟨w.heap.size, 1, none⟩ = some (.string t.name) ∧ w'.cell? ⟨w.heap.size, 2, none⟩ = some (.string t.other) ∧ w'.cell? ⟨w.heap.size, 3, none⟩ = some (.int .i64 t.n) ∧ w'.cell? ⟨w.heap.size, 4, none⟩ = some (.int .i64 t.ty.kind) ∧ w'.cell? ⟨w.heap.size, 5, none⟩ = some (.slice tp t.ty.args.length tc) ∧ w'.cell? ⟨w.heap.size, 6, none⟩ = some (.int .i64 t.res.kind) ∧ w'.cell? ⟨w.heap.size, 7, none⟩ = some (.slice rp t.res.args.length rc) ∧ w'.cell? ⟨w.heap.size, 8, none⟩ = some (.slice (some ⟨b, o, none⟩) t.args.length c) ∧ w'.cell? ⟨b, o + k * 9, none⟩ = some (.int .i64 t.args[k].kind) ∧ w'.cell? ⟨b, o + k * 9 + 1, none⟩ = some (.string t.args[k].name) ∧ w'.cell? ⟨b, o + k * 9 + 2, none⟩ = some (.string t.args[k].other) ∧ w'.cell? ⟨b, o + k * 9 + 3, none⟩ = some (.int .i64 t.args[k].n) ∧ w'.cell? ⟨b, o + k * 9 + 4, none⟩ = some (.int .i64 t.args[k].ty.kind) ∧ w'.cell? ⟨b, o + k * 9 + 5, none⟩ = some (.slice tp2 t.args[k].ty.args.length tc2) ∧ w'.cell? ⟨b, o + k * 9 + 6, none⟩ = some (.int .i64 t.args[k].res.kind) ∧ w'.cell? ⟨b, o + k * 9 + 7, none⟩ = some (.slice rp2 t.args[k].res.args.length rc2) ∧ w'.cell? ⟨b, o + k * 9 + 8, none⟩ = some (.slice p2 t.args[k].args.length c2) ∧ Below wr.heap.size wr w')
          (first
            | (go_keep; done)
            | exact ⟨d0, d1, d2, d3, d4, d5, d6, d7, d8, g0, g1, g2, g3, g4, g5, g6, g7, g8, (Below.refl _ _).drew⟩
            | exact keep18 hb7 (by assumption)
            | exact keep18 hb6 (by assumption))
          (first
            | (go_at_call 57; refine (nextS_any t tp tc rp rc (some ⟨b, o, none⟩) c n _).mono ?_; rintro e w6 ⟨rfl, hb6⟩)
            | (go_at_call 41; refine (HC.out _ ((Below.refl _ _).drew.trans hb6)).mono ?_; rintro e w7 ⟨r, hr, rfl, hb7⟩)
            | (go_at_call 64; refine (max_any _ _ _).mono ?_; rintro e w8 ⟨rfl, rfl⟩))
        rename_i hH
        have hb2 := hH.2.2.2.2.2.2.2.2.2.2.2.2.2.2.2.2.2.2
        have HB2 := Lib.hid (HBR.out.trans (hb2.mono HBR.out.size))
        clear hH hb6 hb7 g0 g1 g2 g3 g4 g5 g6 g7 g8 hb2
        go_wp2_with fail
        go_roundw
        case rel => exact ⟨k + 1, by omega, by go_num, by rw [HHT.out], HB2.out⟩
        case measure => simp [intOf]; omega
      · obtain rfl : k = t.args.length := by omega
        rw [List.take_length]
        go_wp2_with fail
        go_ret
        exact ⟨_, HHE.out.symm, rfl, box_rest HBR.out⟩

variable {t : Tm} {v : Value} {w : World}
set_option maxRecDepth 100000 in
theorem levS_at (n : Int) (h : TM w C t v) (hn : t.wt ≤ 2097152) : Calls Tryd.prog 11 #[v, .int .i64 n] w (Tells (t.IsT ∧ t.lvOk n) w) := by
  have HN := Lib.hid hn
  obtain ⟨tp, tc, rp, rc, p, c, rfl, hT⟩ := h
  have HT := Lib.hid hT
  have HX0 := Lib.hid (Bx9.new w t tp tc rp rc p c 35)
  have HB0 := Lib.hid (al_below w (.cells (tmC t tp tc rp rc p c) 35))
  clear hT hn
  go_enter Tryd.func11, Tryd.ntmps11
  go_wp2_with fail
  refine (isTM_any _ _ (Nat.le_refl _) (HT.out.stays (.of_below HB0.out)) HN.out).mono ?_
  rintro e w1 ⟨r, hr, rfl, hb1⟩
  have HR := Lib.hid hr
  have HB1 := Lib.hid (HB0.out.trans (hb1.mono HB0.out.size))
  obtain ⟨g0, g1, g2, g3, g4, g5, g6, g7, g8⟩ := HX0.out.keep hb1
  clear hr hb1
  cases r with
  | false =>
    go_wp2_with fail
    go_ret
    exact ⟨false, by simp only [Bool.false_eq_true, false_iff]; exact fun h => (by have := HR.out.2 h.1; cases this), rfl, HB1.out⟩
  | true =>
    go_wp2_with fail
    refine (l8Ok_any _ n _ (Nat.le_refl _) (HT.out.stays (.of_below HB1.out)) HN.out).mono ?_
    rintro e w2 ⟨r2, hr2, rfl, hb2⟩
    have HR2 := Lib.hid hr2
    have HB2 := Lib.hid (HB1.out.trans (hb2.mono HB1.out.size))
    clear hr2 hb2
    go_wp2_with fail
    go_ret
    exact ⟨r2, by rw [HR2.out]; exact ⟨fun h => ⟨HR.out.1 (by trivial), h⟩, fun h => h.2⟩, rfl, HB2.out⟩
set_option maxRecDepth 100000 in
theorem genS_at (n : Int) (h : TM w C t v) (hn : t.wt ≤ 2097152) : Calls Tryd.prog 15 #[v, .int .i64 n] w (Tells ((t.IsT ∧ t.lvOk n) ∧ t.made n) w) := by
  have HN := Lib.hid hn
  obtain ⟨tp, tc, rp, rc, p, c, rfl, hT⟩ := h
  have HT := Lib.hid hT
  have HX0 := Lib.hid (Bx9.new w t tp tc rp rc p c 35)
  have HB0 := Lib.hid (al_below w (.cells (tmC t tp tc rp rc p c) 35))
  clear hT hn
  go_enter Tryd.func15, Tryd.ntmps15
  go_wp2_with fail
  refine (levS_at n ⟨_, _, _, _, _, _, rfl, HT.out.stays (.of_below HB0.out)⟩ HN.out).mono ?_
  rintro e w1 ⟨r, hr, rfl, hb1⟩
  have HR := Lib.hid hr
  have HB1 := Lib.hid (HB0.out.trans (hb1.mono HB0.out.size))
  obtain ⟨g0, g1, g2, g3, g4, g5, g6, g7, g8⟩ := HX0.out.keep hb1
  clear hr hb1
  cases r with
  | false =>
    go_wp2_with fail
    go_ret
    exact ⟨false, by simp only [Bool.false_eq_true, false_iff]; exact fun h => (by have := HR.out.2 h.1; cases this), rfl, HB1.out⟩
  | true =>
    go_wp2_with fail
    refine (l8Made_any _ n _ (Nat.le_refl _) (HT.out.stays (.of_below HB1.out)) HN.out).mono ?_
    rintro e w2 ⟨r2, hr2, rfl, hb2⟩
    have HR2 := Lib.hid hr2
    have HB2 := Lib.hid (HB1.out.trans (hb2.mono HB1.out.size))
    clear hr2 hb2
    go_wp2_with fail
    go_ret
    exact ⟨r2, by rw [HR2.out]; exact ⟨fun h => ⟨HR.out.1 (by trivial), h⟩, fun h => h.2⟩, rfl, HB2.out⟩
/-- What HighestLevel answers. -/
def HighIs (t : Tm) (r : Int) : Prop := ((t.IsT ∧ t.lvOk 0) ∧ r = t.high 0) ∨ (¬ (t.IsT ∧ t.lvOk 0) ∧ r = -1)
theorem HighIs.one {t : Tm} {a b : Int} (h : HighIs t a) (k : HighIs t b) : a = b := by
  rcases h with ⟨h1, rfl⟩ | ⟨h1, rfl⟩ <;> rcases k with ⟨k1, rfl⟩ | ⟨k1, rfl⟩
  · rfl
  · exact absurd h1 k1
  · exact absurd k1 h1
  · rfl
set_option maxRecDepth 100000 in
theorem highS_at (h : TM w C t v) (hn : t.wt ≤ 2097152) : Calls Tryd.prog 17 #[v] w (IntRet (HighIs t) w) := by
  have HN := Lib.hid hn
  obtain ⟨tp, tc, rp, rc, p, c, rfl, hT⟩ := h
  have HT := Lib.hid hT
  have HX0 := Lib.hid (Bx9.new w t tp tc rp rc p c 35)
  have HB0 := Lib.hid (al_below w (.cells (tmC t tp tc rp rc p c) 35))
  clear hT hn
  go_enter Tryd.func17, Tryd.ntmps17
  go_wp2_with fail
  refine (levS_at 0 ⟨_, _, _, _, _, _, rfl, HT.out.stays (.of_below HB0.out)⟩ HN.out).mono ?_
  rintro e w1 ⟨r, hr, rfl, hb1⟩
  have HR := Lib.hid hr
  have HB1 := Lib.hid (HB0.out.trans (hb1.mono HB0.out.size))
  obtain ⟨g0, g1, g2, g3, g4, g5, g6, g7, g8⟩ := HX0.out.keep hb1
  clear hr hb1
  cases r with
  | false =>
    go_wp2_with fail
    go_ret
    exact ⟨_, Or.inr ⟨fun h => (by have := HR.out.2 h; cases this), rfl⟩, rfl, HB1.out⟩
  | true =>
    go_wp2_with fail
    refine (l8High_any _ 0 _ (Nat.le_refl _) (HT.out.stays (.of_below HB1.out)) HN.out).mono ?_
    rintro e w2 ⟨r2, rfl, rfl, hb2⟩
    have HB2 := Lib.hid (HB1.out.trans (hb2.mono HB1.out.size))
    clear hb2
    go_wp2_with fail
    go_ret
    exact ⟨_, Or.inl ⟨HR.out.1 (by trivial), rfl⟩, rfl, HB2.out⟩
end Go.Proofs.YtfeijijeohfpgaaDoor

