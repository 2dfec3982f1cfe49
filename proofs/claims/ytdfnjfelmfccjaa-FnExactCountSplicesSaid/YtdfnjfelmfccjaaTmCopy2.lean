/-
  The contract of the laws' toTermS and toTerm, at every term.
-/
import Derived.Test.YtdfnjfelmfccjaaTmCopy
namespace Go.Proofs.Ytdfnjfelmfccjaa
open Go Go.RowKit

theorem setN9 (w : World) (b o : Nat) (v0 v1 v2 v3 v4 v5 v6 v7 v8 : Value) : setN w b o [v0, v1, v2, v3, v4, v5, v6, v7, v8] =
    ((((((((w.setCell ⟨b, o, none⟩ v0).setCell ⟨b, o + 1, none⟩ v1).setCell ⟨b, o + 2, none⟩ v2).setCell ⟨b, o + 3, none⟩ v3).setCell ⟨b, o + 4, none⟩ v4).setCell ⟨b, o + 5, none⟩ v5).setCell ⟨b, o + 6, none⟩ v6).setCell ⟨b, o + 7, none⟩ v7).setCell ⟨b, o + 8, none⟩ v8 := rfl

set_option maxRecDepth 100000 in
set_option maxHeartbeats 2000000 in
theorem toMS_any {w0 : World} {C : Nat → Prop} {ts : List Tm} {v : Value} (h : DM w0 C (tmD ts) v) : ∀ (w : World), Stays C w0 w → wtS ts ≤ 1048576 → Calls Try.prog 13 #[v] w (NewMS ts w) := by
  obtain ⟨i0, hi, hz0, hz1, hz2⟩ := info_parts infoTm
  refine tm_ind (motive := fun ts v => ∀ (w : World), Stays C w0 w → wtS ts ≤ 1048576 → Calls Try.prog 13 #[v] w (NewMS ts w)) ?_ _ (Nat.le_refl _) h
  intro ts q d hlen H w hst hn
  have hge := wtS_ge ts
  have HH := Lib.hid H
  have HST := Lib.hid hst
  clear H hst
  go_enter Try.func13, Try.ntmps13
  go_wp2_with (at_make; refine wpList_make_full _ rfl _ _ 33 rfl w.heap.size 35 i0 _ 9 Try.underlying33 hi hz0 hz1 .i64 .i64 _ _ ts.length rfl rfl rfl rfl ?c1 ?c2 ?c3 ?_)
  case c1 => rw [hz2]; omega
  case c2 => unfold maxLen; omega
  case c3 => exact Nat.le_refl _
  intro w1 hown0 hg
  have hb1 : Below w.heap.size w w1 := (Below.refl _ _).grown hg (Nat.le_refl _) (fun k h => by cases h)
  have HO := Lib.hid (FilD.start (ds := flatTm ts) hown0)
  clear hown0 hg
  go_wp2_with fail
  go_loopw [4] (fun i wr => ∃ k : Nat, k ≤ ts.length ∧ i = .int .i64 k ∧ FilD wr w.heap.size 35 9 ts.length ts.length (flatTm ts) k ∧ Below w.heap.size w wr) (fun i _ => ts.length - (intOf i).toNat)
  case atStart => exact ⟨0, Nat.zero_le _, rfl, HO.out, hb1⟩
  case round =>
    obtain ⟨k, hk, rfl, hfill, hbr⟩ := hrel
    have HFI := Lib.hid hfill
    have HB := Lib.hid hbr
    have HSR := Lib.hid (HST.out.trans (Stays.of_below (C := C) hbr))
    clear hb1 hfill hbr
    by_cases hlk : k < ts.length
    · obtain ⟨b, o, tp, tc, rp, rc, p, c, rfl, hC, hb, h9, hT, hI⟩ := HH.out k hlk
      obtain ⟨g0, g1, g2, g3, g4, g5, g6, g7, g8⟩ := h9 wr HSR.out
      have hwk := wtS_at ts k hlk
      have hwe := ts[k].wt_eq
      have HC := Lib.hid (toM_of (C := C) (hT.stays HSR.out) (by omega) (fun w' hw' => hI w' (HSR.out.trans (.of_below hw')) (by omega)))
      have i0 : (0 : Int) ≤ (k : Int) := Int.natCast_nonneg _
      have i1 : (k : Int) < (ts.length : Int) := by omega
      clear hC hb h9 hT hI hwk hwe
      go_wp2_with fail
      refine HC.out.mono ?_
      rintro e w2 ⟨v, rfl, ⟨tp2, tc2, rp2, rc2, p2, c2, rfl, hos⟩, hb2⟩
      obtain ⟨hrow, hgo⟩ := HFI.out.next hb2 hlk ts[k].ds_len (fun i hi => flatTm_at ts k i hlk hi) hos
      obtain ⟨q0, x0⟩ := hrow 0 (by omega)
      obtain ⟨q1, x1⟩ := hrow 1 (by omega)
      obtain ⟨q2, x2⟩ := hrow 2 (by omega)
      obtain ⟨q3, x3⟩ := hrow 3 (by omega)
      obtain ⟨q4, x4⟩ := hrow 4 (by omega)
      obtain ⟨q5, x5⟩ := hrow 5 (by omega)
      obtain ⟨q6, x6⟩ := hrow 6 (by omega)
      obtain ⟨q7, x7⟩ := hrow 7 (by omega)
      obtain ⟨q8, x8⟩ := hrow 8 (by omega)
      rw [Nat.add_zero] at x0
      have z1 := fun i => HFI.out.frz hb2 i
      have hb3 := (HB.out.trans (hb2.mono HB.out.size)).trans (setN_below (tmL ts[k] tp2 tc2 rp2 rc2 p2 c2) w.heap.size w2 w.heap.size (k * 9) (Nat.le_refl _))
      rw [setN9] at hgo hb3
      have HN := Lib.hid hgo
      have HB2 := Lib.hid hb3
      clear hgo hos hb2 hb3 hrow g0 g1 g2 g3 g4 g5 g6 g7 g8
      go_wp2_with fail
      go_roundw
      case rel => exact ⟨k + 1, by omega, by go_num, HN.out, HB2.out⟩
      case measure => simp [intOf]; omega
    · obtain rfl : k = ts.length := by omega
      go_wp2_with fail
      go_ret
      exact ⟨_, rfl, HFI.out.full (flatTm_len ts) (by unfold maxLen; omega), HB.out⟩
/-- THE LAWS' toTerm, AT EVERY TERM. -/
theorem toM_any {C : Nat → Prop} {t : Tm} {v : Value} {w : World} (h : TM w C t v) (hn : t.wt ≤ 1048576) : Calls Try.prog 6 #[v] w (NewM t w) := by
  obtain ⟨tp, tc, rp, rc, p, c, rfl, hT⟩ := h
  have hwe := t.wt_eq
  exact toM_of hT hn (fun w' hb => toMS_any hT.args w' (.of_below hb) (by omega))
#print axioms toM_any
end Go.Proofs.Ytdfnjfelmfccjaa

