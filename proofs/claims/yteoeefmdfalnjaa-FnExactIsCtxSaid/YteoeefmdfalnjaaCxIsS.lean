/-
  The contract of the model's IsCtx.
-/
import Derived.Test.YteoeefmdfalnjaaCxP
namespace Go.Proofs.Yteoeefmdfalnjaa
open Go Go.RowKit

set_option maxRecDepth 100000 in
set_option maxHeartbeats 2000000 in
theorem isCxS_any {C : Nat → Prop} {L : List Tg} {v : Value} {w : World} (h : DM w C (cxD L) v) (hn : wtC L ≤ 1048576) :
    Calls Try.prog 6 #[v] w (Tells (isCx L) w) := by
  obtain ⟨q, d, rfl⟩ := h.form
  have hlen := h.len.1
  have hge := wtC_ge L
  have HH := Lib.hid h
  have HW := Lib.hid hn
  clear h
  go_enter Try.func6, Try.ntmps6
  go_wp2_with fail
  go_loopw [3] (fun i wr => ∃ k : Nat, k ≤ L.length ∧ i = .int .i64 k ∧ (∀ x ∈ L.take k, x.ok) ∧ Below w.heap.size w wr) (fun i _ => L.length - (intOf i).toNat)
  case atStart => exact ⟨0, Nat.zero_le _, rfl, by simp, Below.refl _ _⟩
  case round =>
    obtain ⟨k, hk, rfl, hok, hbr⟩ := hrel
    have HOK := Lib.hid hok
    have HB := Lib.hid hbr
    clear hok hbr
    by_cases hlk : k < L.length
    · obtain ⟨b, o, p, c, rfl, hC, hb, h4, hT⟩ := cx_part HH.out k hlk
      have H4 := Lib.hid h4
      have HT := Lib.hid hT
      obtain ⟨g0, g1, g2, g3⟩ := h4 wr (.of_below HB.out)
      have hwk := wtC_at L k hlk
      unfold Tg.wt at hwk
      have i0 : (0 : Int) ≤ (k : Int) := Int.natCast_nonneg _
      have i1 : (k : Int) < (L.length : Int) := by omega
      clear hC hb h4 hT
      go_wp2_with fail
      refine (nmS_any L[k].nm _ (by omega)).mono ?_
      rintro e w1 ⟨r1, hr1, rfl, hb1⟩
      have HR1 := Lib.hid hr1
      have HB1 := Lib.hid (HB.out.trans (hb1.mono HB.out.size))
      clear hr1 hb1 g0 g1 g2 g3
      obtain ⟨g0, g1, g2, g3⟩ := H4.out w1 (.of_below HB1.out)
      cases r1 with
      | false =>
        go_wp2_with fail
        go_ret
        exact ⟨false, tells_no (not_cx_at hlk (fun e => by have := HR1.out.2 e.1; cases this)), rfl, HB1.out⟩
      | true =>
        go_wp2_with fail
        refine (valid_any (C := C) (t := L[k].ty) (v := .agg #[.int .i64 L[k].ty.kind, .slice p L[k].ty.args.length c]) ⟨_, rfl, HT.out.stays (.of_below HB1.out)⟩ (by omega)).mono ?_
        rintro e w2 ⟨r2, hr2, rfl, hb2⟩
        have HR2 := Lib.hid hr2
        have HB2 := Lib.hid (HB1.out.trans (hb2.mono HB1.out.size))
        clear hr2 hb2 g0 g1 g2 g3
        obtain ⟨g0, g1, g2, g3⟩ := H4.out w2 (.of_below HB2.out)
        cases r2 with
        | false =>
          go_wp2_with fail
          go_ret
          exact ⟨false, tells_no (not_cx_at hlk (fun e => by have := e.2.1; rw [← HR2.out] at this; cases this)), rfl, HB2.out⟩
        | true =>
          go_wp2_with fail
          refine (in_any L[k].lv 0 2 w2).mono ?_
          rintro e w3 ⟨rfl, rfl⟩
          obtain ⟨r3, hr3⟩ : ∃ r3, decide (0 ≤ L[k].lv ∧ L[k].lv ≤ 2) = r3 := ⟨_, rfl⟩
          rw [hr3]
          have HR3 : Hid (r3 = true ↔ 0 ≤ L[k].lv ∧ L[k].lv ≤ 2) := Lib.hid (by rw [← hr3]; exact decide_eq_true_iff)
          clear hr3
          cases r3 with
          | false =>
            go_wp2_with fail
            go_ret
            exact ⟨false, tells_no (not_cx_at hlk (fun e => by have := HR3.out.2 e.2.2; cases this)), rfl, HB2.out⟩
          | true =>
            go_wp2_with fail
            go_roundw
            case rel => exact ⟨k + 1, by omega, by go_num, cx_all_next HOK.out hlk ⟨HR1.out.1 trivial, HR2.out.symm, (HR3.out.1 trivial).1, (HR3.out.1 trivial).2⟩, HB2.out⟩
            case measure => simp [intOf]; omega
    · obtain rfl : k = L.length := by omega
      have hall := HOK.out
      rw [List.take_length] at hall
      have HALL := Lib.hid hall
      clear hall
      go_wp2_with fail
      go_ret
      exact ⟨decide ((L.length : Int) ≤ 12), ⟨fun e => ⟨HALL.out, by simp at e; omega⟩, fun e => by have := e.2; simp; omega⟩, rfl, HB.out⟩
#print axioms isCxS_any
end Go.Proofs.Yteoeefmdfalnjaa

