/-
  The contract of the model's CountSplices.
-/
import Derived.Test.YtdfnjfelmfccjaaLvP0
import Derived.Test.YtdfnjfelmfccjaaApply
namespace Go.Proofs.Ytdfnjfelmfccjaa
open Go Go.RowKit

theorem bit11 (k : Int) : bit (k == 11) = ((if k = 11 then 1 else 0 : Nat) : Int) := by
  by_cases h : k = 11
  · simp [h, bit]
  · have : (k == 11) = false := by simp [h]
    simp [h, this, bit]

set_option maxRecDepth 100000 in
set_option maxHeartbeats 1000000 in
theorem splS_any {C : Nat → Prop} : ∀ (m : Nat) {t : Tm} {tp : Option Addr} {tc : Nat} {rp : Option Addr} {rc : Nat} {p : Option Addr} {c : Nat} (w : World), t.nodes ≤ m → TM' w C t tp tc rp rc p c → t.wt ≤ 2097152 → Calls Try.prog 5 #[tmV t tp tc rp rc p c] w (IntRet (fun r => r = ((t.splices : Nat) : Int)) w)
  | 0, t, tp, tc, rp, rc, p, c, w, hm, hT, hn => by rw [t.nodes_eq] at hm; omega
  | m + 1, t, tp, tc, rp, rc, p, c, w, hm, hT, hn => by
    have HT := Lib.hid hT
    have HX0 := Lib.hid (Bx9.new w t tp tc rp rc p c 35)
    have HB0 := Lib.hid (al_below w (.cells (tmC t tp tc rp rc p c) 35))
    have hne := t.nodes_eq
    have hwe := t.wt_eq
    have hlen := wtS_ge t.args
    have hnw := nodesM_wt t.args
    have HM := Lib.hid hm
    have HNE := Lib.hid hne
    have HSE := Lib.hid t.splices_eq
    have hwa : wtS t.args ≤ 2097152 := by omega
    obtain ⟨k0, hk0⟩ : ∃ k0 : Nat, k0 = (if t.kind = 11 then 1 else 0) := ⟨_, rfl⟩
    have hk1 : k0 ≤ 1 := by rw [hk0]; split <;> omega
    have HBIT := Lib.hid (show bit (t.kind == 11) = (k0 : Int) by rw [bit11, hk0])
    have HK0 := Lib.hid hk0
    clear hT hne hwe hm hk0
    obtain ⟨c0, _, _, _, _, _, _, _, _⟩ := HX0.out
    go_enter Try.func5, Try.ntmps5
    go_wp2_with fail
    refine (bitS_any _ _).mono ?_
    rintro e w0 ⟨rfl, rfl⟩
    rw [HBIT.out]
    clear c0
    go_wp2_with fail
    go_loopw [3, 4] (fun n i wr => ∃ (k : Nat), k ≤ t.args.length ∧ i = .int .i64 k ∧ n = .int .i64 ((k0 + splicesS (t.args.take k) : Nat) : Int) ∧ Below (w.alloc (.cells (tmC t tp tc rp rc p c) 35)).heap.size (w.alloc (.cells (tmC t tp tc rp rc p c) 35)) wr) (fun _ i _ => t.args.length - (intOf i).toNat)
    case atStart => exact ⟨0, Nat.zero_le _, rfl, by simp [splicesS], Below.refl _ _⟩
    case round =>
      obtain ⟨k, hk, rfl, rfl, hbr⟩ := hrel
      have HBR := Lib.hid hbr
      have HB := Lib.hid (HB0.out.trans (hbr.mono HB0.out.size))
      obtain ⟨_, _, _, _, _, _, _, _, d8⟩ := HX0.out.keep hbr
      clear hbr
      by_cases hlk : k < t.args.length
      · obtain ⟨b, o, tp2, tc2, rp2, rc2, p2, c2, rfl, hC, hb, h9, hP⟩ := tm_part HT.out.args k hlk
        obtain ⟨g0, g1, g2, g3, g4, g5, g6, g7, g8⟩ := h9 wr (.of_below HB.out)
        have n1 := splicesS_take t.args k hlk
        have n2 := nodesM_take_le t.args k
        have n3 := splicesS_nodes (t.args.take k)
        have n4 := nodesM_at t.args k hlk
        have n5 := wtS_at t.args k hlk
        have n6 := t.args[k].splices_nodes
        have hmk : t.args[k].nodes ≤ m := by have := HM.out; have := HNE.out; omega
        have hi0 : (0 : Int) ≤ (k : Int) := Int.natCast_nonneg _
        have hi1 : (k : Int) < (t.args.length : Int) := by omega
        have b1 : splicesS (t.args.take k) ≤ 2097152 := by omega
        have b2 : t.args[k].splices ≤ 2097153 := by omega
        have HC := Lib.hid (splS_any m wr hmk (hP.stays (.of_below HB.out)) (by omega))
        have HN1 := Lib.hid n1
        clear hC hb h9 hP n1 n2 n3 n4 n5 n6 hmk
        go_wp2_with fail
        refine HC.out.mono ?_
        rintro e w1 ⟨r, hr, rfl, hb1⟩
        have HB1 := Lib.hid (HBR.out.trans (hb1.mono HBR.out.size))
        clear hb1
        subst hr
        go_wp2_with fail
        go_roundw
        case rel => exact ⟨k + 1, by omega, by go_num, by have h1 := HN1.out; rw [h1]; go_num, HB1.out⟩
        case measure => simp [intOf]; omega
      · obtain rfl : k = t.args.length := by omega
        rw [List.take_length]
        go_wp2_with fail
        go_ret
        exact ⟨_, by rw [HSE.out, HK0.out], rfl, box_rest HBR.out⟩
theorem splT_at {C : Nat → Prop} {t : Tm} {v : Value} {w : World} (h : TM w C t v) (hn : t.wt ≤ 2097152) : Calls Try.prog 5 #[v] w (IntRet (fun r => r = ((t.splices : Nat) : Int)) w) := by
  obtain ⟨tp, tc, rp, rc, p, c, rfl, hT⟩ := h
  exact splS_any _ w (Nat.le_refl _) hT hn
end Go.Proofs.Ytdfnjfelmfccjaa

