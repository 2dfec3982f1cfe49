/-
  The contract of the program's IsCtx.
-/
import Derived.Test.YteoeefmdfalnjaaCxP
import Derived.Test.YteoeefmdfalnjaaIsNameI
import Derived.Test.YteoeefmdfalnjaaValidT
namespace Go.Proofs.Yteoeefmdfalnjaa
open Go Go.RowKit

set_option maxRecDepth 100000 in
set_option maxHeartbeats 4000000 in
theorem isCxI_any {C : Nat → Prop} {L : List Tg} {v : Value} {w : World} (h : DM w C (cxD L) v) (hn : wtC L ≤ 1048576) :
    Calls Try.prog 8 #[v] w (Tells (isCx L) w) := by
  obtain ⟨q, d, rfl⟩ := h.form
  have hlen := h.len.1
  have hge := wtC_ge L
  have HH := Lib.hid h
  clear h
  go_enter Try.func8, Try.ntmps8
  by_cases h12 : 12 < L.length
  · go_wp2_with fail
    go_ret
    exact ⟨false, tells_no (fun e => by have := e.2; omega), rfl, Below.refl _ _⟩
  go_wp2_with fail
  go_loopw [10] (fun i wr => ∃ k : Nat, k ≤ L.length ∧ i = .int .i64 k ∧ (∀ x ∈ L.take k, x.ok) ∧ Below w.heap.size w wr) (fun i _ => L.length - (intOf i).toNat)
  case atStart => exact ⟨0, Nat.zero_le _, rfl, by simp, Below.refl _ _⟩
  case round =>
    obtain ⟨k, hk, rfl, hok, hbr⟩ := hrel
    have HOK := Lib.hid hok
    have HB := Lib.hid hbr
    clear hok hbr
    by_cases hlk : k < L.length
    · obtain ⟨b, o, p, c, rfl, hC, hb, h4, hT⟩ := cx_part HH.out k hlk
      have HT := Lib.hid hT
      obtain ⟨g0, g1, g2, g3⟩ := h4 wr (.of_below HB.out)
      have hwk := wtC_at L k hlk
      unfold Tg.wt at hwk
      have HBA := Lib.hid (al_below wr (.cells (tgC L[k] p c) 43))
      have HX := Lib.hid (Bx4.new wr L[k] p c 43)
      have HB0 := Lib.hid (HB.out.trans (HBA.out.mono HB.out.size))
      have i0 : (0 : Int) ≤ (k : Int) := Int.natCast_nonneg _
      have i1 : (k : Int) < (L.length : Int) := by omega
      clear hC hb h4 hT
      go_wp2_with fail
      refine (nmI_any L[k].nm _ (by omega)).mono ?_
      rintro e w1 ⟨r1, hr1, rfl, hb1⟩
      have HR1 := Lib.hid hr1
      have HB1 := Lib.hid (HB0.out.trans (hb1.mono HB0.out.size))
      have HX1 := Lib.hid (HX.out.keep hb1)
      clear hr1 hb1 g0 g1 g2 g3
      obtain ⟨g0, g1, g2, g3⟩ := HX1.out
      cases r1 with
      | false =>
        go_wp2_with fail
        go_ret
        exact ⟨false, tells_no (not_cx_at hlk (fun e => by have := HR1.out.2 e.1; cases this)), rfl, HB1.out⟩
      | true =>
        go_wp2_with fail
        refine (validI_any (C := C) (t := L[k].ty) (v := .agg #[.int .i64 L[k].ty.kind, .slice p L[k].ty.args.length c]) ⟨_, rfl, HT.out.stays (.of_below HB1.out)⟩ (by omega)).mono ?_
        rintro e w2 ⟨r2, hr2, rfl, hb2⟩
        have HR2 := Lib.hid hr2
        have HB2 := Lib.hid (HB1.out.trans (hb2.mono HB1.out.size))
        have HX2 := Lib.hid (HX1.out.keep hb2)
        clear hr2 hb2 g0 g1 g2 g3
        obtain ⟨g0, g1, g2, g3⟩ := HX2.out
        cases r2 with
        | false =>
          go_wp2_with fail
          go_ret
          exact ⟨false, tells_no (not_cx_at hlk (fun e => by have := e.2.1; rw [← HR2.out] at this; cases this)), rfl, HB2.out⟩
        | true =>
          by_cases hl0 : L[k].lv < 0
          · go_wp2_with fail
            go_ret
            exact ⟨false, tells_no (not_cx_at hlk (fun e => by have := e.2.2.1; omega)), rfl, HB2.out⟩
          by_cases hl2 : 2 < L[k].lv
          · go_wp2_with fail
            go_ret
            exact ⟨false, tells_no (not_cx_at hlk (fun e => by have := e.2.2.2; omega)), rfl, HB2.out⟩
          go_wp2_with fail
          go_roundw
          case rel => exact ⟨k + 1, by omega, by go_num, cx_all_next HOK.out hlk ⟨HR1.out.1 trivial, HR2.out.symm, by omega, by omega⟩, HB2.out⟩
          case measure => simp [intOf]; omega
    · obtain rfl : k = L.length := by omega
      have hall := HOK.out
      rw [List.take_length] at hall
      have HALL := Lib.hid hall
      clear hall
      go_wp2_with fail
      go_ret
      exact ⟨true, tells_yes ⟨HALL.out, by omega⟩, rfl, HB.out⟩
#print axioms isCxI_any
end Go.Proofs.Yteoeefmdfalnjaa

