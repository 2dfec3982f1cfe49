/-
  The walk of the law that joining the parts of a string at the separator restores it, and that no part contains the separator.
-/
import Derived.Test.YtekgfjfdabcmfaaDoorSplitLaw
import Derived.Test.YtekgfjfdabcmfaaDoorJoinI
import Derived.Test.YtekgfjfdabcmfaaDoorDrawSplit
namespace Go.Proofs.YtekgfjfdabcmfaaDoor
open Go Go.RowKit

/-- A part: it is split into itself alone. -/
theorem split_part (p : ByteArray) (c : UInt8) (w : World) (hp : p.size ≤ 1048576) (hm : MaxLenIs w) (hc : c ∉ p.data.toList) :
    Calls Tryd.prog 18 #[.string p, .int .u8 c.toNat] w fun e w' => (∃ g cap, e = .returned (.slice (some ⟨g, 0, none⟩) 1 cap)) ∧ Below w.heap.size w w' := by
  refine (splitI_any p c w hp hm).mono ?_
  rintro e w' ⟨v, qs, rfl, hqs, hown, hb⟩
  rw [cut_free c _ hc] at hqs
  have hl : qs.length = 1 := by
    have e := congrArg List.length hqs
    rw [bs, List.length_map] at e
    exact e
  obtain ⟨g, cap, rfl, _⟩ := row_head hown (fun h => by rw [h] at hl; cases hl)
  rw [hl]
  exact ⟨⟨g, cap, rfl⟩, hb⟩

set_option maxRecDepth 100000 in
set_option maxHeartbeats 400000 in
theorem lawSp_big (a : Option Addr) (len cap : Nat) (w : World) (hl : len ≤ 9223372036854775807) (h : 1048576 < (len : Int)) :
    Calls Tryd.prog 4 #[.slice a len cap] w fun e w' => e = .returned (.bool true) ∧ Below w.heap.size w w' := by
  go_enter Tryd.func4, Tryd.ntmps4
  go_wp2_with fail
  refine (big_yes a len cap w hl h).mono ?_
  rintro e w' ⟨rfl, rfl⟩
  go_wp2_with fail
  go_ret
  exact ⟨rfl, Below.refl _ _⟩

set_option maxRecDepth 100000 in
set_option maxHeartbeats 1000000 in
theorem lawSp_small (a : Option Addr) (len cap : Nat) (w : World) (hl : len ≤ 1048576) (hv : Bytes w (.slice a len cap)) (hm : MaxLenIs w) :
    Calls Tryd.prog 4 #[.slice a len cap] w fun e w' => e = .returned (.bool true) ∧ Below w.heap.size w w' := by
  have HM := Lib.hid hm
  have HD := Lib.hid (drawSplit_any (.slice a len cap) w hv hl)
  clear hm hv
  go_enter Tryd.func4, Tryd.ntmps4
  go_wp2_with fail
  refine (big_no a len cap w (by omega)).mono ?_
  rintro e w' ⟨rfl, rfl⟩
  go_wp2_with fail
  refine HD.out.mono ?_
  rintro e w1 ⟨s, c, rfl, hs, hb1⟩
  have HB1 := Lib.hid hb1
  have HM1 := Lib.hid (HM.out.below hb1)
  clear hb1
  go_wp2_with fail
  refine (splitI_any s c w1 (by omega) HM1.out).mono ?_
  rintro e w2 ⟨v1, ps, rfl, hps, hown, hb2⟩
  have hne : ps ≠ [] := fun h => cutL_ne c s.data.toList (by rw [← hps, h]; rfl)
  have hlx : ps.length ≤ 7 := by
    have e1 : (bs ps).length = (cutL c s.data.toList).length := by rw [hps]
    have e2 := cut_length c s.data.toList
    rw [bs, List.length_map] at e1
    rw [← Lib.size_eq] at e2
    omega
  obtain ⟨g, cp, rfl, hg⟩ := row_head hown hne
  have HP := Lib.hid hps
  have HO := Lib.hid (SS_of_row hown)
  have HB2 := Lib.hid (HB1.out.trans (hb2.mono HB1.out.size))
  have HM2 := Lib.hid (HM.out.below HB2.out)
  have HJ : Hid (Lib.join (bs ps) (⟨#[c]⟩ : ByteArray).data.toList = s.data.toList) := Lib.hid (by rw [hps]; exact join_cut c s.data.toList)
  have kc := run_string_byte (P := Tryd.prog) w2 22 9 5 (c.toNat : Int) (by omega) (by have := c.toNat_lt; omega) Tryd.underlying22 Tryd.underlying5 Tryd.underlying9
  rw [show UInt8.ofNat (c.toNat : Int).toNat = c from by simp] at kc
  have HA : Hid (Below w2.heap.size w2 (w2.alloc (.cells #[.int .u8 c.toNat] 5))) := Lib.hid ((Below.refl _ _).alloc (Nat.le_refl _) _)
  have hbe : (Lib.join (bs ps) (⟨#[c]⟩ : ByteArray).data.toList == s.toList) = true := by rw [beq_iff_eq, Lib.toList_data]; exact HJ.out
  clear hps hne hown hb2 hg
  go_wp2_with fail
  have hJl : (Lib.join (bs ps) (⟨#[c]⟩ : ByteArray).data.toList).length ≤ 140737488355328 := by rw [HJ.out, ← Lib.size_eq]; omega
  refine (joinI_any ps _ ⟨#[c]⟩ _ (by omega) hJl (HO.out.below HA.out)).mono ?_
  rintro e w3 ⟨rfl, hb3⟩
  have HB3 := Lib.hid (HA.out.trans (hb3.mono HA.out.size))
  clear hb3 hJl kc
  go_wp2_with fail
  refine (splitS_any s c w3 (by omega)).mono ?_
  rintro e w4 ⟨v4, qs, rfl, hqs, hown4, hb4⟩
  obtain rfl : qs = ps := bs_inj (hqs.trans HP.out.symm)
  obtain ⟨g4, cp4, rfl, _⟩ := row_head hown4 (fun h => cutL_ne c s.data.toList (by rw [← hqs, h]; rfl))
  have HB4 := Lib.hid (HB3.out.trans (hb4.mono HB3.out.size))
  have HS4 := Lib.hid (HO.out.below HB4.out)
  clear hqs hown4 hb4 hbe
  go_wp2_with fail
  go_loopw [6] (fun i wr => ∃ k : Nat, k ≤ qs.length ∧ i = .int .i64 k ∧ Below w2.heap.size w2 wr) (fun i _ => qs.length - (intOf i).toNat)
  case atStart => exact ⟨0, Nat.zero_le _, rfl, HB4.out⟩
  case round =>
    obtain ⟨k, hk, rfl, hbr⟩ := hrel
    by_cases hlk : k < qs.length
    · have hS := HO.out.below hbr
      have c1 : wr.cell? ⟨g, k, none⟩ = some (.string qs[k]) := by
        rcases hS with ⟨h0, _⟩ | ⟨_, b, o, cc, hv, _, _, hcell⟩
        · rw [h0] at hlk; exact absurd hlk (Nat.not_lt_zero _)
        · obtain ⟨⟨h1, h2⟩, h3⟩ : (g = b ∧ 0 = o) ∧ cp = cc := by simpa using hv
          have := hcell k _ (List.getElem?_eq_getElem hlk)
          rw [← h1, ← h2, Nat.zero_add] at this
          exact this
      have hmem : (qs[k]).data.toList ∈ cutL c s.data.toList := by
        rw [← HP.out]
        exact List.mem_map.2 ⟨_, List.getElem_mem hlk, rfl⟩
      have hsz : (qs[k]).size ≤ 1048576 := by
        have := piece_len c _ _ hmem
        rw [← Lib.size_eq, ← Lib.size_eq] at this
        omega
      have HX := Lib.hid (split_part qs[k] c wr hsz (HM2.out.below hbr) (piece_free c _ _ hmem))
      have HBR := Lib.hid hbr
      clear hS hmem hsz hbr
      go_wp2_with fail
      refine HX.out.mono ?_
      rintro e w5 ⟨⟨g5, cp5, rfl⟩, hb5⟩
      have HB5 := Lib.hid (HBR.out.trans (hb5.mono HBR.out.size))
      clear hb5 c1
      go_wp2_with fail
      go_roundw
      case rel => exact ⟨k + 1, by omega, by go_num, HB5.out⟩
      case measure => simp [intOf]; omega
    · go_wp2_with fail
      go_ret
      exact ⟨rfl, HB2.out.trans (hbr.mono HB2.out.size)⟩

theorem lawSp_any (a : Option Addr) (len cap : Nat) (w : World) (hl : len ≤ 9223372036854775807) (hv : Bytes w (.slice a len cap)) (hm : MaxLenIs w) :
    Calls Tryd.prog 4 #[.slice a len cap] w fun e w' => e = .returned (.bool true) ∧ Below w.heap.size w w' := by
  by_cases h : 1048576 < (len : Int)
  · exact lawSp_big a len cap w hl h
  · exact lawSp_small a len cap w (by omega) hv hm
#print axioms lawSp_any
end Go.Proofs.YtekgfjfdabcmfaaDoor
