/-
  The contracts of the draws' l1Pick, l1Turned, DrawFormatType, DrawParseType.
-/
import Derived.Test.YtnciibngcaajgaaBent
import Derived.Test.YtnciibngcaajgaaPick
import Derived.Test.YtnciibngcaajgaaTextS
namespace Go.Proofs.Ytnciibngcaajgaa
open Go Go.RowKit

set_option maxRecDepth 100000 in
set_option maxHeartbeats 1000000 in
theorem turned_any (s : ByteArray) (xs : List ByteArray) (m n lb b : Nat) (w : World) (hs : s.size ≤ 1048576) (hm : ∀ x ∈ xs, x.size ≤ m) (hm2 : m ≤ 1048576) (hn : xs.length = n) (hne : lb ≠ b) (h1 : 1 ≤ n) (h2 : n ≤ 1048576)
    (hcell : ∀ j x, xs[j]? = some x → w.cell? ⟨lb, j, none⟩ = some (.string x)) (hc : Cur w b) :
    Calls Try.prog 75 #[.pointer (some ⟨b, 0, none⟩), .string s, .slice (some ⟨lb, 0, none⟩) n n] w (GStr (fun x => x.size ≤ s.size + m) b w) := by
  have HC := Lib.hid (below_any b ((s.size : Int) + 1) w (by omega) (by omega) hc)
  have HX := Lib.hid hcell
  have HM := Lib.hid hm
  clear hc hcell hm
  go_enter Try.func75, Try.ntmps75
  go_wp2_with fail
  refine HC.out.mono ?_
  rintro e w1 ⟨a, ha, rfl, hc1, hg1⟩
  obtain ⟨k, rfl⟩ := Int.eq_ofNat_of_zero_le ha.1
  have k0 : (0 : Int) ≤ (k : Int) := by omega
  have k1 : (k : Int) ≤ (s.size : Int) := by omega
  have HC1 := Lib.hid hc1
  have HG1 := Lib.hid hg1
  clear hc1 hg1 ha
  go_wp2_with fail
  refine (below_any b 6 w1 (by decide) (by decide) HC1.out).mono ?_
  rintro e w2 ⟨x, hx, rfl, hc2, hg2⟩
  have HC2 := Lib.hid hc2
  have HG2 := Lib.hid (grownBy_trans HG1.out hg2)
  clear hc2 hg2
  obtain ⟨x0, x6⟩ := hx
  rcases (show x = 0 ∨ x = 1 ∨ 2 ≤ x by omega) with rfl | rfl | h2x
  · have HP := Lib.hid (pickS_any xs n lb b w2.drew hn hne h1 h2 (fun j x hj => (grown_drewB HG2.out).cell (HX.out j x hj) (fun e => hne (Option.some.inj e))) (HC2.out.below (Below.refl _ _).drew))
    go_wp2_with fail
    go_region_held3 (fun _ => True)
      (first
        | (go_keep; done)
        | trivial)
      (first
        | (go_at_call 101; refine HP.out.mono ?_; rintro e w3 ⟨y, hy, rfl, hc3, hg3⟩; have y8 := HM.out y hy; have y1 : ¬ 9223372036854775807 < min k s.size + y.size := (by omega); have y2 : ¬ 9223372036854775807 < min k s.size + y.size + (s.size - k) := (by omega)))
    go_wp2_with fail
    go_ret
    exact ⟨_, by simp only [ByteArray.size_append, ByteArray.size_extract]; omega, rfl, hc3, grownBy_trans (grown_drewB HG2.out) hg3⟩
  · go_wp2_with fail
    go_ret
    exact ⟨_, by simp only [ByteArray.size_extract]; omega, rfl, HC2.out, HG2.out⟩
  · have e0 : (x == 0) = false := by rw [beq_eq_false_iff_ne]; omega
    have e1 : (x == 1) = false := by rw [beq_eq_false_iff_ne]; omega
    go_wp2_with fail
    go_ret
    exact ⟨s, by omega, rfl, HC2.out, HG2.out⟩

theorem grown_startD {w w1 w2 : World} (h : Below w.heap.size w w1) (hs : w1.heap.size = w.heap.size + 1) (hg : w1.grownBy w2 (some w.heap.size)) : Below w.heap.size w w2 :=
  h.grown hg (by omega) (fun k hk => by cases hk; exact Nat.le_refl _)

def DTy (w : World) (e : Ending) (w' : World) : Prop := ∃ v t, e = .returned v ∧ t.nodes ≤ 200 ∧ TT w' (fun z => w.heap.size ≤ z) t v ∧ Below w.heap.size w w'

set_option maxRecDepth 100000 in
set_option maxHeartbeats 1000000 in
theorem drawFmt_any (v : Value) (w : World) (hv : Bytes w v) (hlen : sliceLen v ≤ 1048576) : Calls Try.prog 31 #[v] w (DTy w) := by
  have ha := alloc_below w (.cells #[.int .i64 0, .slice none 0 0] 26)
  have HA := Lib.hid ha
  have HN := Lib.hid (new_any v _ (hv.below ha) hlen)
  have HR := Lib.hid (blk_new w (.cells #[.int .i64 0, .slice none 0 0] 26))
  clear hv hlen ha
  go_enter Try.func31, Try.ntmps31
  go_wp2_with fail
  refine HN.out.mono ?_
  rintro e w1 ⟨rfl, hc1, hb1, hs1⟩
  rw [World.size_alloc] at hc1 hb1 hs1
  rw [World.size_alloc]
  have HC1 := Lib.hid hc1
  have HB1 := Lib.hid hb1
  have HS1 := Lib.hid hs1
  clear hc1 hb1 hs1
  go_wp2_with fail
  refine (bent_any _ w1 HC1.out).mono ?_
  rintro e w2 ⟨v2, t, rfl, hn, hT, hc2, hg2⟩
  obtain ⟨s2, rfl, hS⟩ := hT
  obtain ⟨p, c, rfl⟩ := hS.form
  have hr2 := (hg2.block w.heap.size (by have := HS1.out; omega) (fun e => by have := Option.some.inj e; omega)).trans ((HB1.out.block w.heap.size (by omega)).trans HR.out)
  have g0 : w2.cell? ⟨w.heap.size, 0, none⟩ = some (.int .i64 0) := cell_of_blk hr2 0
  have g1 : w2.cell? ⟨w.heap.size, 1, none⟩ = some (.slice none 0 0) := cell_of_blk hr2 1
  have gz := unfrozen_of_blk hr2
  have HS := Lib.hid hS
  have HB2 := Lib.hid ((HA.out.trans (HB1.out.mono (by omega))).grown hg2 (by have := HS1.out; omega) (fun k hk => by cases hk; omega))
  have HL := Lib.hid HS1.out
  clear hS hc2 hg2 hr2
  go_wp2_with fail
  refine bodyPost_ret (v := .agg #[.int .i64 t.kind, .slice p t.args.length c]) ?_ rfl ?_
  · rw [results_cell1 rfl]
    go_simp
  · refine ⟨_, t, rfl, hn, ⟨_, rfl, (HS.out.stays ((setCell_stays _ _ _ _ _ (by have := HL.out; omega)).trans (setCell_stays _ _ _ _ _ (by have := HL.out; omega)))).mono (fun z hz _ => by have := HL.out; omega)⟩, ?_⟩
    exact (HB2.out.setCell (p := ⟨w.heap.size, 0, none⟩) (Nat.le_refl _) _).setCell (p := ⟨w.heap.size, 1, none⟩) (Nat.le_refl _) _

def DStr (w : World) (e : Ending) (w' : World) : Prop := ∃ x : ByteArray, e = .returned (.string x) ∧ x.size ≤ 1000 ∧ Below w.heap.size w w'
theorem fmt_len (t : Ty) : (fmtT t).length ≤ 90 := by
  unfold fmtT
  by_cases h : t.valid = true
  · obtain ⟨h1, _, h3⟩ := (valid_iff t).1 h
    rw [if_pos h]
    have := text_le _ t (Nat.le_refl _) h3
    omega
  · rw [if_neg h]; simp

set_option maxRecDepth 100000 in
set_option maxHeartbeats 1000000 in
theorem drawParse_any (v : Value) (w : World) (hv : Bytes w v) (hlen : sliceLen v ≤ 1048576) : Calls Try.prog 35 #[v] w (DStr w) := by
  have HN := Lib.hid (new_any v w hv hlen)
  clear hv hlen
  go_enter Try.func35, Try.ntmps35
  go_wp2_with fail
  refine HN.out.mono ?_
  rintro e w1 ⟨rfl, hc1, hb1, hs1⟩
  have HC1 := Lib.hid hc1
  have HB1 := Lib.hid hb1
  have HS1 := Lib.hid hs1
  clear hc1 hb1 hs1
  go_wp2_with fail
  refine (bent_any _ w1 HC1.out).mono ?_
  rintro e w2 ⟨v2, t, rfl, hn, hT, hc2, hg2⟩
  have hna : nodesS t.args ≤ 1048576 := by rw [t.nodes_eq] at hn; omega
  have HF := Lib.hid (spFmt_any hT hna)
  obtain ⟨s2, rfl, hS⟩ := hT
  obtain ⟨p, c, rfl⟩ := hS.form
  have HC2 := Lib.hid hc2
  have HB2 := Lib.hid (HB1.out.grown hg2 (by have := HS1.out; omega) (fun k hk => by cases hk; exact Nat.le_refl _))
  clear hS hc2 hg2 hna
  go_wp2_with fail
  refine HF.out.mono ?_
  rintro e w3 ⟨rfl, hb3⟩
  have HC3 := Lib.hid (HC2.out.below hb3)
  have HB3 := Lib.hid (HB2.out.trans (hb3.mono HB2.out.size))
  have hfl := fmt_len t
  have hlt := (HC2.out.below hb3).lt
  have HCT := Lib.hid (turned_any ⟨(fmtT t).toArray⟩ [⟨#[40]⟩, ⟨#[41]⟩, ⟨#[60]⟩, ⟨#[62]⟩, ⟨#[73]⟩, ⟨#[66]⟩] 1 6 w3.heap.size w.heap.size (w3.alloc (.cells #[.string ⟨#[40]⟩, .string ⟨#[41]⟩, .string ⟨#[60]⟩, .string ⟨#[62]⟩, .string ⟨#[73]⟩, .string ⟨#[66]⟩] 9))
    (by simp only [ByteArray.size, List.size_toArray]; omega) (fun x hx => by simp only [List.mem_cons, List.not_mem_nil, or_false] at hx; rcases hx with rfl | rfl | rfl | rfl | rfl | rfl <;> decide) (by decide) rfl (by omega) (by decide) (by decide)
    (fun j x hj => by
      rw [cell_of_blk (blk_new w3 _) j]
      match j, hj with
      | 0, hj => cases hj; rfl
      | 1, hj => cases hj; rfl
      | 2, hj => cases hj; rfl
      | 3, hj => cases hj; rfl
      | 4, hj => cases hj; rfl
      | 5, hj => cases hj; rfl
      | n + 6, hj => simp at hj) (HC3.out.below (alloc_below _ _)))
  have HFL := Lib.hid hfl
  clear hb3 hfl
  go_wp2_with fail
  refine HCT.out.mono ?_
  rintro e w4 ⟨x, hx, rfl, hc4, hg4⟩
  have HB4 := Lib.hid ((HB3.out.trans ((alloc_below w3 (.cells #[.string ⟨#[40]⟩, .string ⟨#[41]⟩, .string ⟨#[60]⟩, .string ⟨#[62]⟩, .string ⟨#[73]⟩, .string ⟨#[66]⟩] 9)).mono HB3.out.size)).grown hg4 (by have := HB3.out.size; simp; omega) (fun k hk => by cases hk; exact Nat.le_refl _))
  have hx2 : x.size ≤ 1000 := by have := HFL.out; simp only [ByteArray.size, List.size_toArray] at hx; simp only [ByteArray.size]; omega
  clear hc4 hg4 hx
  go_wp2_with fail
  go_ret
  exact ⟨x, rfl, hx2, HB4.out⟩
end Go.Proofs.Ytnciibngcaajgaa

