/-
  Several texts of the proof in one (each says below what it holds): CxSafeI SafeCtxLaw Frame.
-/
import Derived.Test.YteoeefmdfalnjaaSc6
import Derived.Test.YteoeefmdfalnjaaSc9
import Derived.Test.YteoeefmdfalnjaaSc10
import Derived.Test.YteoeefmdfalnjaaSc7
import Derived.Test.YteoeefmdfalnjaaSc4
import Derived.Test.YteoeefmdfalnjaaSc5
import Derived.ProofKit
import Derived.OpenShut
import Derived.Carry
import Derived.Below
/- CxSafeI: The contracts of the program's isSafe and SafeCtx, at every context. -/
namespace Go.Proofs.Yteoeefmdfalnjaa
open Go Go.RowKit Go.Maps

theorem lawKeyS : Keyed Try.prog 9 := string_keyed Try.underlying9
theorem zeroIx (w : World) : (zeroValue 3).run Try.prog w = .ok (.int .i64 0) w := by kernel_rfl
set_option maxRecDepth 100000 in
set_option maxHeartbeats 1000000 in
theorem isSafe_any {C : Nat → Prop} {x : Tg} {p : Option Addr} {c : Nat} {w : World} (n : Int) (h : TS w C x.ty.args (.slice p x.ty.args.length c)) :
    Calls Try.prog 25 #[tgV x p c, .int .i64 n] w (Tells (x.ty.base = true ∧ x.lv ≤ n) w) := by
  have HB0 := Lib.hid (al_below w (.cells (tgC x p c) 43))
  have HX := Lib.hid (Bx4.new w x p c 43)
  have HH := Lib.hid (h.stays (.of_below HB0.out))
  clear h
  go_enter Try.func25, Try.ntmps25
  go_wp2_with fail
  refine (baseI_any (t := x.ty) ⟨_, rfl, HH.out⟩).mono ?_
  rintro e w1 ⟨r, hr, rfl, hb1⟩
  have HR : Hid (r = x.ty.base) := Lib.hid hr
  have HB1 := Lib.hid (HB0.out.trans (hb1.mono HB0.out.size))
  obtain ⟨g0, g1, g2, g3⟩ := HX.out.keep hb1
  clear hr hb1
  cases r with
  | false =>
    go_wp2_with fail
    go_ret
    exact ⟨false, tells_no (fun e => by have := HR.out; rw [e.1] at this; cases this), rfl, HB1.out⟩
  | true =>
    by_cases hl : x.lv ≤ n
    · go_wp2_with fail
      go_ret
      exact ⟨_, by simp [hl, ← HR.out], rfl, HB1.out⟩
    · go_wp2_with fail
      go_ret
      exact ⟨_, ⟨fun e => absurd (by simpa using e) (show ¬ x.lv ≤ n by omega), fun e => absurd e.2 (by omega)⟩, rfl, HB1.out⟩
/-- The place of the last typing of a name among the first k, as the map has it. -/
def lastV (L : List Tg) (s : ByteArray) : Value := .int .i64 (((lastIx L s).getD 0 : Nat) : Int)
theorem lastV_next {L : List Tg} {k : Nat} (hk : k < L.length) (s : ByteArray) : (if s = L[k].nm then Value.int .i64 (k : Int) else lastV (L.take k) s) = lastV (L.take (k + 1)) s := by
  unfold lastV
  rw [cx_take_next hk, lastIx_append]
  by_cases h : s = L[k].nm
  · rw [if_pos h, if_pos h.symm, List.length_take, Nat.min_eq_left (Nat.le_of_lt hk)]; rfl
  · rw [if_neg h, if_neg (fun e => h e.symm)]
theorem lastV_at {L : List Tg} {k : Nat} (hk : k < L.length) : ∃ m : Nat, lastIx L L[k].nm = some m ∧ lastV L L[k].nm = .int .i64 (m : Int) ∧ m < L.length := by
  cases h : lastIx L L[k].nm with
  | none => exact absurd rfl ((lastIx_none _ _).1 h k _ (List.getElem?_eq_getElem hk))
  | some m => exact ⟨m, rfl, by unfold lastV; rw [h]; rfl, lastIx_lt h⟩
def SafeIRet (L : List Tg) (n : Int) (w : World) (e : Ending) (w' : World) : Prop := ∃ v, e = .returned v ∧ DO w' (cxD (safeL L n)) v (fun z => w.heap.size ≤ z ∧ z < w'.heap.size) ∧ Below w.heap.size w w'
/-- While what is safe is gathered; base: where the gathering began. -/
structure SafI (w w0 : World) (L' : List Tg) (v : Value) (L : List Tg) (bm : Nat) (wr : World) : Prop where
  below : Below w.heap.size w wr
  lo : w.heap.size < w0.heap.size
  size : w0.heap.size ≤ wr.heap.size
  row : DO wr (cxD L') v (fun z => w0.heap.size ≤ z ∧ z < wr.heap.size)
  map : MapV Try.prog 9 wr bm L.length (.int .i64 0) (lastV L)
theorem SafI.keep {w w0 wr wr' : World} {L' L : List Tg} {v : Value} {bm : Nat} (h : SafI w w0 L' v L bm wr) (hb : Below wr.heap.size wr wr') : SafI w w0 L' v L bm wr' :=
  ⟨h.below.trans (hb.mono h.below.size), h.lo, Nat.le_trans h.size hb.size, (h.row.keep hb).mono (fun z hz => ⟨hz.1, Nat.lt_of_lt_of_le hz.2 hb.size⟩), h.map.of_block (hb.block _ h.map.lt)⟩
set_option maxRecDepth 100000 in
set_option maxHeartbeats 4000000 in
theorem safeI_any {C : Nat → Prop} {L : List Tg} {v : Value} {w : World} (n : Int) (h : DM w C (cxD L) v) (hn : wtC L ≤ 1048576) :
    Calls Try.prog 11 #[v, .int .i64 n] w (SafeIRet L n w) := by
  obtain ⟨i0, hi, hz0, hz1, hz2⟩ := info_parts infoCx
  obtain ⟨q, c, rfl⟩ := h.form
  have hlen := h.len.1
  have hge := wtC_ge L
  have HH := Lib.hid h
  have HM0 := Lib.hid (mapV_made w Try.prog 9 (.int .i64 0))
  have HB0 := Lib.hid (al_below w (.map #[] 0))
  have hmm := @run_makeMap Try.prog
  clear h
  go_enter Try.func11, Try.ntmps11
  go_wp2_with fail
  go_loopw [14] (fun i wr => ∃ k : Nat, k ≤ L.length ∧ i = .int .i64 k ∧ MapV Try.prog 9 wr w.heap.size k (.int .i64 0) (lastV (L.take k)) ∧ Below w.heap.size w wr) (fun i _ => L.length - (intOf i).toNat)
  case atStart => exact ⟨0, Nat.zero_le _, rfl, HM0.out.congr (fun s => rfl), HB0.out⟩
  case round =>
    obtain ⟨k, hk, rfl, hm, hbr⟩ := hrel
    have HM := Lib.hid hm
    have HB := Lib.hid hbr
    clear hm hbr HM0 HB0
    by_cases hlk : k < L.length
    · obtain ⟨b, o, p, c', rfl, hC, hb, hat, hts⟩ := cx_part HH.out k hlk
      obtain ⟨g0, g1, g2, g3⟩ := hat wr (.of_below HB.out)
      have hwk := wtC_at L k hlk
      unfold Tg.wt at hwk
      have HBA := Lib.hid (al_below wr (.cells (tgC L[k] p c') 43))
      obtain ⟨x0, x1, x2, x3⟩ := Bx4.new wr L[k] p c' 43
      have HM1 := Lib.hid (HM.out.of_block (HBA.out.block _ HM.out.lt))
      have i0 : (0 : Int) ≤ (k : Int) := Int.natCast_nonneg _
      have i1 : (k : Int) < (L.length : Int) := by omega
      clear hC hb hat hts
      go_wp2_with (at_mapUpdate; refine wpList_store_v _ rfl _ _ _ _ rfl lawKeyS Try.underlying9 Try.underlying50 rfl HM1.out (by unfold maxLen; omega) L[k].nm rfl (by unfold maxLen; omega) _ rfl ?_; intro w2 hm2 hg2; have HM2 := Lib.hid (hm2.congr (fun s => lastV_next hlk s)); have HB2 := Lib.hid ((HB.out.trans (HBA.out.mono HB.out.size)).grown hg2 (Nat.le_trans HB.out.size HBA.out.size) (fun j hj => by cases hj; exact Nat.le_refl _)); clear hm2 hg2; go_frame)
      go_roundw
      case rel => exact ⟨k + 1, by omega, by go_num, HM2.out, HB2.out⟩
      case measure => simp [intOf]; omega
    · obtain rfl : k = L.length := by omega
      have hm := HM.out
      rw [List.take_length] at hm
      have HI0 : Hid (SafI w wr [] (.slice none 0 0) L w.heap.size wr) := Lib.hid ⟨HB.out, hm.lt, Nat.le_refl _, .nil _ _ _, hm⟩
      rename World => w0
      clear hm HM HB
      go_wp2_with fail
      go_loopw [8, 26] (fun o i wr => ∃ (k : Nat) (L' : List Tg) (v : Value), k ≤ L.length ∧ i = .int .i64 k ∧ L' = safeUpto L n k ∧ L'.length ≤ k ∧ o = v ∧ SafI w w0 L' v L w.heap.size wr) (fun _ i _ => L.length - (intOf i).toNat)
      case atStart => exact ⟨0, [], _, Nat.zero_le _, rfl, rfl, Nat.zero_le _, rfl, HI0.out⟩
      case round =>
        obtain ⟨k, L', v, hk, rfl, hsf, hL', rfl, hI⟩ := hrel
        clear HI0
        obtain ⟨ao, co, rfl⟩ := hI.row.form
        have HI := Lib.hid hI
        have HSF := Lib.hid hsf
        clear hI hsf
        by_cases hlk : k < L.length
        · obtain ⟨b, o, p, c', rfl, hC, hb, hat, hts⟩ := cx_part HH.out k hlk
          have HTS := Lib.hid hts
          have hwk := wtC_at L k hlk
          unfold Tg.wt at hwk
          obtain ⟨g0, g1, g2, g3⟩ := hat wr (.of_below HI.out.below)
          obtain ⟨m, hm1, hm2, hm3⟩ := lastV_at hlk
          have HM1 := Lib.hid hm1
          have HM2 := Lib.hid hm2
          have HBA := Lib.hid (al_below wr (.cells (tgC L[k] p c') 43))
          have HX0 := Lib.hid (Bx4.new wr L[k] p c' 43)
          have HBK := Lib.hid (blk_new wr (.cells (tgC L[k] p c') 43))
          obtain ⟨x0, x1, x2, x3⟩ := HX0.out
          have HI1 := Lib.hid (HI.out.keep HBA.out)
          have i0 : (0 : Int) ≤ (k : Int) := Int.natCast_nonneg _
          have i1 : (k : Int) < (L.length : Int) := by omega
          clear hC hb hat hts hm1 hm2
          by_cases hmk : m = k
          · subst hmk
            have e0 : ((m : Int) == (m : Int)) = true := by simp
            have e1 : ((m : Int) == m) = true := by simp
            go_wp2_with (at_lookup; refine wpList_look_v _ rfl _ _ _ rfl lawKeyS Try.underlying9 Try.underlying50 (zeroIx _) rfl HI1.out.map L[m].nm rfl (by unfold maxLen; omega) _ HM2.out ?_)
            refine (isSafe_any n (HTS.out.stays (.of_below HI1.out.below))).mono ?_
            rintro e w2 ⟨r, hr, rfl, hb2⟩
            have HR := Lib.hid hr
            have HI2 := Lib.hid (HI1.out.keep hb2)
            have HS2 := Lib.hid (show wr.heap.size < w2.heap.size by have := hb2.size; rw [World.size_alloc] at this; omega)
            have HBK2 := Lib.hid ((hb2.block _ (by simp)).trans HBK.out)
            have HROW2 := Lib.hid ((HI.out.row.keep HBA.out).keep hb2)
            clear x0 x1 x2 x3 hr hb2
            obtain ⟨x0, x1, x2, x3⟩ := Bx4.of HBK2.out
            cases r with
            | false =>
              go_wp2_with fail
              go_roundw
              case rel => exact ⟨m + 1, L', _, by omega, by go_num, by rw [safeUpto_no hlk (fun h => by have := HR.out.2 ⟨h.1, h.2.1⟩; cases this)]; exact HSF.out, by omega, rfl, HI2.out⟩
              case measure => simp [intOf]; omega
            | true =>
              have HY := Lib.hid (HR.out.1 rfl)
              go_wp2_with fail
              refine (copyI_any (t := L[m].ty) ⟨_, rfl, HTS.out.stays (.of_below HI2.out.below)⟩ (by omega)).mono ?_
              rintro e w3 ⟨v3, rfl, ⟨s3, rfl, ho3⟩, hb3⟩
              obtain ⟨p3, c3, rfl⟩ := ho3.form
              have hs3 := hb3.size
              have hbk3 := (hb3.block _ HS2.out).trans HBK2.out
              have hI3 := HI2.out.keep hb3
              have hst : ∀ F : Nat → Prop, ¬ F wr.heap.size → Stays F w3 ((w3.setCell ⟨wr.heap.size, 1, none⟩ (.int .i64 L[m].ty.kind)).setCell ⟨wr.heap.size, 2, none⟩ (.slice p3 L[m].ty.args.length c3)) := fun F hF => (setCell_stays _ _ _ _ F hF).trans (setCell_stays _ _ _ _ F hF)
              have hlo := HI.out.lo
              have hsz := HI.out.size
              have hrow := (HROW2.out.keep hb3).stays (hst _ (by omega))
              have hos := OSt4 (ho3.stays (hst _ (by have := HS2.out; omega)))
              have hh2 := HS2.out
              have hW : ((w3.setCell ⟨wr.heap.size, 1, none⟩ (.int .i64 L[m].ty.kind)).setCell ⟨wr.heap.size, 2, none⟩ (.slice p3 L[m].ty.args.length c3)).heap.size = w3.heap.size := by simp [World.setCell]
              obtain ⟨xs, hown, hgrow⟩ := hrow.grow (base := w0.heap.size) hos L[m].ds_len (fun z hz => ⟨hz.1, fun e => by omega⟩) (fun z hz => ⟨by omega, by rw [hW]; omega⟩)
              have HGROW := Lib.hid hgrow
              have HOWN := Lib.hid hown
              have HW := Lib.hid hW
              have HI3 := Lib.hid hI3
              have HS3 := Lib.hid hs3
              have x0 := cell_of_blk hbk3 0
              have x1 := cell_of_blk hbk3 1
              have x2 := cell_of_blk hbk3 2
              have x3 := cell_of_blk hbk3 3
              have xz := unfrozen_of_blk hbk3
              simp only [List.getElem?_toArray, List.getElem?_cons_zero, List.getElem?_cons_succ] at x0 x1 x2 x3
              have HIX := Lib.hid HM1.out
              clear hrow hos hgrow hown hW hI3 hs3 hbk3 hst hb3 ho3
              go_wp2_with (at_builtin; refine wpList_app1 (w0 := ((w3.setCell ⟨wr.heap.size, 1, none⟩ (.int .i64 L[m].ty.kind)).setCell ⟨wr.heap.size, 2, none⟩ (.slice p3 L[m].ty.args.length c3))) rfl _ _ rfl Try.underlying25 hi hz0 hz1 hz2 rfl (by decide) rfl HOWN.out _ rfl (by simp [World.setCell]) rfl (fun u hu => by simp at hu; rcases hu with rfl | rfl | rfl | rfl <;> rfl) (by unfold maxLen; omega) (by omega) (by rw [HW.out]; have := HS3.out; omega) ?_; intro w4 g cap hA; have HA := Lib.hid hA; clear hA x0 x1 x2 x3 xz)
              have hcut : lastIx L L[m].nm = some m := HM1.out
              have hB3 : Below w.heap.size w ((w3.setCell ⟨wr.heap.size, 1, none⟩ (.int .i64 L[m].ty.kind)).setCell ⟨wr.heap.size, 2, none⟩ (.slice p3 L[m].ty.args.length c3)) := set2_below HI3.out.below (by have := HI.out.below.size; omega)
              refine ⟨⟨m + 1, L' ++ [L[m]], _, by omega, by go_num, by rw [safeUpto_yes hlk HY.out.1 HY.out.2 hcut, HSF.out], by simp; omega, rfl, ?_⟩, by simp [intOf]; omega⟩
              refine ⟨hB3.trans (HA.out.below.mono (by have := HI.out.lo; omega)), HI.out.lo, by have := HA.out.size; have := HW.out; have := HS3.out; have := HI.out.size; omega, ?_, ?_⟩
              · have key := HGROW.out w4 g cap HA.out
                rw [cxD, List.length_append, List.length_singleton]
                have e : flatCx (L' ++ [L[m]]) = flatCx L' ++ L[m].ds := by simp [flatCx]
                rw [e]
                exact key
              · refine HI3.out.map.of_block ((HA.out.below.block _ HI.out.lo).trans ?_)
                rw [Below.heap_setCell _ _ _ _ (by show w.heap.size ≠ wr.heap.size; have := HI.out.lo; have := HI.out.size; omega), Below.heap_setCell _ _ _ _ (by show w.heap.size ≠ wr.heap.size; have := HI.out.lo; have := HI.out.size; omega)]
          · have e0 : ((m : Int) == (k : Int)) = false := by simp; omega
            have HNO : Hid (¬ (L[k].ty.base = true ∧ L[k].lv ≤ n ∧ lastIx L L[k].nm = some k)) := Lib.hid (fun h => hmk (by have := HM1.out; rw [h.2.2] at this; exact (Option.some.inj this).symm))
            go_wp2_with (at_lookup; refine wpList_look_v _ rfl _ _ _ rfl lawKeyS Try.underlying9 Try.underlying50 (zeroIx _) rfl HI1.out.map L[k].nm rfl (by unfold maxLen; omega) _ HM2.out ?_)
            go_roundw
            case rel => exact ⟨k + 1, L', _, by omega, by go_num, by rw [safeUpto_no hlk HNO.out]; exact HSF.out, by omega, rfl, HI1.out⟩
            case measure => simp [intOf]; omega
        · obtain rfl : k = L.length := by omega
          go_wp2_with fail
          go_ret
          have hl : L' = safeL L n := HSF.out
          have hz := HI.out.size
          exact ⟨_, rfl, hl ▸ HI.out.row.mono (fun z hz => ⟨by have := HI.out.lo; omega, hz.2⟩), HI.out.below⟩
#print axioms safeI_any
end Go.Proofs.Yteoeefmdfalnjaa
/- SafeCtxLaw: The walk of the law that SafeCtx answers as its model does, writes into no argument, and owns its answer. -/
namespace Go.Proofs.Yteoeefmdfalnjaa
open Go Go.RowKit

set_option maxRecDepth 100000 in
set_option maxHeartbeats 4000000 in
theorem lawSafeCtx {C : Nat → Prop} (L : List Tg) (n : Int) (v : Value) (w : World) (h : DM w C (cxD L) v) (hf : fitC L) :
    Calls Try.prog 4 #[v, .int .i64 n] w fun e w' => e = .returned (.bool true) ∧ Below w.heap.size w w' := by
  have HT := Lib.hid (fun w' (hb : Below w.heap.size w w') => h.keep hb)
  obtain ⟨q, d, rfl⟩ := h.form
  have hlen := h.len.1
  clear h
  go_enter Try.func4, Try.ntmps4
  go_wp2_with fail
  refine (szCS_any (HT.out _ (Below.refl _ _)) 1048576 (by omega) (by omega) hf).mono ?_
  rintro e w1 ⟨r, hr, rfl, hb1⟩
  have HB1 := Lib.hid hb1
  have HR := Lib.hid hr
  clear hr hb1
  by_cases h0 : r < 0
  · go_wp2_with fail
    go_ret
    exact ⟨rfl, HB1.out⟩
  have hn : wtC L ≤ 1048576 := by have := HR.out; unfold SzEnds at this; omega
  have hcL := cntC_wt L
  have hcS := cntC_wt (safeL L n)
  have hwS := safeL_wt L n
  have hbL : 1 + cntC L ≤ 1099511627776 := by omega
  have hbS : 1 + cntC (safeL L n) ≤ 1099511627776 := by omega
  clear hcL hcS hwS HR
  go_wp2_with fail
  refine (toCS_any (HT.out _ HB1.out) hn).mono ?_
  rintro e w2 ⟨v1, rfl, ho1, hb2⟩
  have HO1 := Lib.hid ho1.dm
  have HB2 := Lib.hid (HB1.out.trans (hb2.mono HB1.out.size))
  clear ho1 hb2
  go_wp2_with fail
  refine (safeS_any n HO1.out hn).mono ?_
  rintro e w3 ⟨vw, rfl, hw, hb3⟩
  have HB3 := Lib.hid (HB2.out.trans (hb3.mono HB2.out.size))
  have HW3 := Lib.hid (hw.mono (C' := (· < w3.heap.size)) (fun z _ hl => hl))
  clear hb3 hw HO1
  go_wp2_with fail
  refine (toCS_any (HT.out _ HB3.out) hn).mono ?_
  rintro e w4 ⟨vx, rfl, ho2, hb4⟩
  have HX4 := Lib.hid ho2
  have HS34 := Lib.hid hb4.size
  have HW4 := Lib.hid (HW3.out.keep hb4)
  have HB4 := Lib.hid (HB3.out.trans (hb4.mono HB3.out.size))
  clear ho2 hb4 HW3
  go_wp2_with fail
  refine (safeI_any n HX4.out.dm hn).mono ?_
  rintro e w5 ⟨vg, rfl, hg, hb5⟩
  have HG5 := Lib.hid hg
  have HX5 := Lib.hid (HX4.out.keep hb5)
  have HW5 := Lib.hid (HW4.out.keep hb5)
  have HS45 := Lib.hid hb5.size
  have HB5 := Lib.hid (HB4.out.trans (hb5.mono HB4.out.size))
  clear hg hb5 HX4 HW4
  go_wp2_with fail
  refine (eqCS_any HG5.out.dm HW5.out).mono ?_
  rintro e w6 ⟨b6, he6, rfl, hb6⟩
  have HG6 := Lib.hid (HG5.out.keep hb6)
  have HX6 := Lib.hid (HX5.out.keep hb6)
  have HW6 := Lib.hid (HW5.out.keep hb6)
  have HB6 := Lib.hid (HB5.out.trans (hb6.mono HB5.out.size))
  obtain rfl : b6 = true := by simpa using he6
  clear hb6 HG5 HX5 HW5
  go_wp2_with fail
  refine (toCS_any (HT.out _ HB6.out) hn).mono ?_
  rintro e w7 ⟨v3, rfl, ho3, hb7⟩
  have HV7 := Lib.hid ho3.dm
  have HG7 := Lib.hid (HG6.out.keep hb7)
  have HX7 := Lib.hid (HX6.out.keep hb7)
  have HW7 := Lib.hid (HW6.out.keep hb7)
  have HB7 := Lib.hid (HB6.out.trans (hb7.mono HB6.out.size))
  clear ho3 hb7 HG6 HX6 HW6
  go_wp2_with fail
  refine (eqCS_any HX7.out.dm HV7.out).mono ?_
  rintro e w8 ⟨b8, he8, rfl, hb8⟩
  have HG8 := Lib.hid (HG7.out.keep hb8)
  have HX8 := Lib.hid (HX7.out.keep hb8)
  have HW8 := Lib.hid (HW7.out.keep hb8)
  have HB8 := Lib.hid (HB7.out.trans (hb8.mono HB7.out.size))
  obtain rfl : b8 = true := by simpa using he8
  clear hb8 HG7 HX7 HW7 HV7
  go_wp2_with fail
  refine (markCS_any HX8.out 1 (by omega) hbL).mono ?_
  rintro e w9 ⟨rfl, hx9, hbt⟩
  have HG9 := Lib.hid (HG8.out.stays (hbt.stays (fun z h1 h2 => by omega)))
  have HW9 := Lib.hid (HW8.out.stays (hbt.stays (fun z h1 h2 => by omega)))
  have HB9 := Lib.hid (HB8.out.trans (hbt.below _ HB8.out.size (fun z hz => by have := HB3.out.size; omega)))
  have hk9 : ¬ (((1 + cntC L : Nat) : Int) < 0) := by omega
  clear hx9 hbt HG8 HX8 HW8
  go_wp2_with fail
  refine (eqCS_any HG9.out.dm HW9.out).mono ?_
  rintro e w10 ⟨b10, he10, rfl, hb10⟩
  have HG10 := Lib.hid (HG9.out.keep hb10)
  have HW10 := Lib.hid (HW9.out.keep hb10)
  have HB10 := Lib.hid (HB9.out.trans (hb10.mono HB9.out.size))
  obtain rfl : b10 = true := by simpa using he10
  clear hb10 HG9 HW9
  go_wp2_with fail
  refine (markCS_any HG10.out 1 (by omega) hbS).mono ?_
  rintro e w11 ⟨rfl, hg11, hbt⟩
  have HG11 := Lib.hid hg11
  have HW11 := Lib.hid (HW10.out.stays (hbt.stays (fun z h1 h2 => by have := HS34.out; omega)))
  have HB11 := Lib.hid (HB10.out.trans (hbt.below _ HB10.out.size (fun z hz => by have := HB4.out.size; omega)))
  clear hg11 hbt HG10 HW10 hk9
  go_wp2_with fail
  refine (heldCS_any HG11.out.dm 1 (safeL L n) rfl (by omega) hbS).mono ?_
  rintro e w12 ⟨r12, hr12, rfl, hb12⟩
  have HG12 := Lib.hid (HG11.out.keep hb12)
  have HW12 := Lib.hid (HW11.out.keep hb12)
  have HB12 := Lib.hid (HB11.out.trans (hb12.mono HB11.out.size))
  subst hr12
  have hk12 : ¬ (((1 + cntC (safeL L n) : Nat) : Int) < 0) := by omega
  clear hb12 HG11 HW11
  go_wp2_with fail
  refine (toCS_any (HT.out _ HB12.out) hn).mono ?_
  rintro e w13 ⟨v4, rfl, ho4, hb13⟩
  have HV13 := Lib.hid ho4.dm
  have HG13 := Lib.hid (HG12.out.keep hb13)
  have HW13 := Lib.hid (HW12.out.keep hb13)
  have HB13 := Lib.hid (HB12.out.trans (hb13.mono HB12.out.size))
  clear ho4 hb13 HG12 HW12
  go_wp2_with fail
  refine (safeI_any n HV13.out hn).mono ?_
  rintro e w14 ⟨vh, rfl, hh, hb14⟩
  have HH14 := Lib.hid hh.dm
  have HG14 := Lib.hid (HG13.out.keep hb14)
  have HW14 := Lib.hid (HW13.out.keep hb14)
  have HB14 := Lib.hid (HB13.out.trans (hb14.mono HB13.out.size))
  clear hh hb14 HG13 HW13 HV13
  go_wp2_with fail
  refine (eqCS_any HH14.out HW14.out).mono ?_
  rintro e w15 ⟨b15, he15, rfl, hb15⟩
  have HG15 := Lib.hid (HG14.out.keep hb15)
  have HB15 := Lib.hid (HB14.out.trans (hb15.mono HB14.out.size))
  obtain rfl : b15 = true := by simpa using he15
  clear hb15 HG14 HW14 HH14
  go_wp2_with fail
  refine (heldCS_any HG15.out.dm 1 (safeL L n) rfl (by omega) hbS).mono ?_
  rintro e w16 ⟨r16, hr16, rfl, hb16⟩
  have HB16 := Lib.hid (HB15.out.trans (hb16.mono HB15.out.size))
  subst hr16
  clear hb16 HG15
  go_wp2_with fail
  go_ret
  exact ⟨rfl, HB16.out⟩
#print axioms lawSafeCtx
end Go.Proofs.Yteoeefmdfalnjaa
/- Frame: THE FRAME OF A LAW, of no program: where a call returns true and leaves what was there as it was, the row's end is met: each argument reads as it read. -/
namespace Go.Proofs.Yteoeefmdfalnjaa
open Go Go.ChangeShapes Go.WideShapes Go.ChangeAt Go.RowKit

section
variable {H : Type} {enc : TypeId × Value → H} {P : Program}

/-- Every argument reads behind the call as it read before. -/
theorem trodAll_below (hl : laidOutB P = true) {W W' : World} (hb : Below W.heap.size W W') : ∀ (ts : List TypeId) (vs : List Value) (ds : List (DataW H)) (ps : List MemPlace),
    (∀ t ∈ ts, P.readableRec t = true ∧ t < P.types.size) → DataW.TrodAll enc P W 0 (fun _ => true) true ts vs ds ps → (∀ x ∈ ps, x.block < W.heap.size) →
    DataW.TrodAll enc P W' 0 (fun b => decide (b < W.heap.size)) true ts vs ds ps
  | [], [], [], _, _, h, _ => h
  | t :: ts, v :: vs, d :: ds, ps, hr, h, hlt => by
    obtain ⟨p, q, h1, h2, rfl⟩ := h
    have ht := hr t (List.mem_cons_self ..)
    exact ⟨p, q, Below.trod hl ht.1 ht.2 h1 hb (fun x hx => hlt x (List.mem_append_left _ hx)), trodAll_below hl hb ts vs ds q (fun u hu => hr u (List.mem_cons_of_mem _ hu)) h2 (fun x hx => hlt x (List.mem_append_right _ hx)), rfl⟩
  | [], _ :: _, _, _, _, h, _ => h.elim
  | [], [], _ :: _, _, _, h, _ => h.elim
  | _ :: _, [], _, _, _, h, _ => h.elim
  | _ :: _, _ :: _, [], _, _, h, _ => h.elim

/-- The end of a law's row. -/
theorem law_post {f : Func} {s : ChangeSpec} {W W' : World} {args : Array Value} {ds gs : List (DataW H)} {before : List MemPlace} {tb : TypeId} (hl : laidOutB P = true)
    (hts : (f.params.toList.all fun t => P.readableRec t && decide (t < P.types.size)) = true) (hbool : P.underlying tb = some .bool) (hres : f.resultTypes = #[tb]) (hvars : s.vars = [])
    (hW : DataW.Whole enc P f.params.toList s.vars false W args.toList ds gs before) (hr : (s.fn H ds).results = [.lit (.bool true)]) (ha : (s.fn H ds).args = ds) (hv : (s.fn H ds).vars = [])
    (hb : Below W.heap.size W W') : s.post enc P f false true false false W args (.bool true) W' := by
  have hW0 := hW
  obtain ⟨p, q, hA, hV, rfl, hfz, _⟩ := hW
  rw [hvars] at hV
  obtain ⟨rfl, rfl⟩ := trodVars_none hV
  have hlt : ∀ x ∈ p, x.block < W.heap.size := fun x hx => hW0.lt x (List.mem_append_left _ hx)
  refine ⟨ds, [], p ++ [], [], p, [], hW0, ?_, ?_, ?_, hb.frame _, fun h => by cases h⟩
  · rw [List.append_nil, hr, hres]
    exact trodAll_mk1 (shut_bool hbool _)
  · rw [List.append_nil, ha]
    refine trodAll_below hl hb _ _ _ _ (fun t ht => ?_) hA hlt
    have := List.all_eq_true.1 hts t ht
    simp only [Bool.and_eq_true, decide_eq_true_eq] at this
    exact this
  · rw [List.append_nil, hv, hvars]
    rfl
end
end Go.Proofs.Yteoeefmdfalnjaa
