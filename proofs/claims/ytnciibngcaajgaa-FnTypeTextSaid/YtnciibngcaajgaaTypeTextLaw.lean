/-
  The walk of the law that a type is parsed from its representation.
-/
import Derived.Test.YtnciibngcaajgaaParseI
import Derived.Test.YtnciibngcaajgaaTextI
import Derived.Test.YtnciibngcaajgaaAid
import Derived.Test.YtnciibngcaajgaaEqT
import Derived.Test.YtnciibngcaajgaaTurned
namespace Go.Proofs.Ytnciibngcaajgaa
open Go Go.RowKit

set_option maxHeartbeats 400000 in
theorem big_yes (a : Option Addr) (len cap : Nat) (w : World) (_hl : len ≤ 9223372036854775807) (h : 1048576 < (len : Int)) :
    Calls Try.prog 16 #[.slice a len cap] w fun e w' => e = .returned (.bool true) ∧ w = w' := by
  go_enter Try.func16, Try.ntmps16
  go_wp2_with fail
  go_ret
  exact ⟨rfl, rfl⟩
set_option maxHeartbeats 400000 in
theorem big_no (a : Option Addr) (len cap : Nat) (w : World) (h : ¬ 1048576 < (len : Int)) :
    Calls Try.prog 16 #[.slice a len cap] w fun e w' => e = .returned (.bool false) ∧ w = w' := by
  go_enter Try.func16, Try.ntmps16
  go_wp2_with fail
  go_ret
  exact ⟨rfl, rfl⟩
theorem TT.of {w : World} {C : Nat → Prop} {t : Ty} {s : Value} (h : TS w C t.args s) : TT w C t (.agg #[.int .i64 t.kind, s]) := ⟨s, rfl, h⟩
theorem TT.mono {w : World} {C C' : Nat → Prop} {t : Ty} {v : Value} (h : TT w C t v) (hC : ∀ b, C b → b < w.heap.size → C' b) : TT w C' t v := by
  obtain ⟨s, rfl, h⟩ := h
  exact ⟨s, rfl, h.mono hC⟩
theorem parseI_text (t : Ty) (W : World) : Calls Try.prog 33 #[.string ⟨(fmtT t).toArray⟩] W fun e w' =>
    ∃ v, e = .returned (.tuple #[v, .bool t.valid]) ∧ TT w' (fun z => W.heap.size ≤ z) (if t.valid then t else .mk 0 []) v ∧ Below W.heap.size W w' := by
  refine (parseI_any ⟨(fmtT t).toArray⟩ (by have := fmt_len t; simp only [ByteArray.size, List.size_toArray]; omega) W).mono ?_
  rintro e w' ⟨v, rfl, ho, hb⟩
  have hp : parseT (⟨(fmtT t).toArray⟩ : ByteArray).data.toList = if t.valid then some t else none := parse_fmt t
  rw [hp] at ho ⊢
  by_cases hv : t.valid = true
  · simp only [hv, if_true, Option.getD_some] at ho
    exact ⟨v, by simp [hv], by simpa [hv] using (TT.mono (OT.tt ho) (fun z hz _ => hz.1)), hb⟩
  · simp only [hv, if_false, Option.getD_none, Bool.false_eq_true] at ho
    exact ⟨v, by simp [hv], by simpa [hv] using (TT.mono (OT.tt ho) (fun z hz _ => hz.1)), hb⟩

set_option maxRecDepth 100000 in
set_option maxHeartbeats 400000 in
theorem lawTT_big (a : Option Addr) (len cap : Nat) (w : World) (hl : len ≤ 9223372036854775807) (h : 1048576 < (len : Int)) :
    Calls Try.prog 4 #[.slice a len cap] w fun e w' => e = .returned (.bool true) ∧ Below w.heap.size w w' := by
  go_enter Try.func4, Try.ntmps4
  go_wp2_with fail
  refine (big_yes a len cap w hl h).mono ?_
  rintro e w' ⟨rfl, rfl⟩
  go_wp2_with fail
  go_ret
  exact ⟨rfl, Below.refl _ _⟩

set_option maxRecDepth 100000 in
set_option maxHeartbeats 4000000 in
theorem lawTT_small (a : Option Addr) (len cap : Nat) (w : World) (hl : len ≤ 1048576) (hv : Bytes w (.slice a len cap)) :
    Calls Try.prog 4 #[.slice a len cap] w fun e w' => e = .returned (.bool true) ∧ Below w.heap.size w w' := by
  have HV := Lib.hid hv
  clear hv
  go_enter Try.func4, Try.ntmps4
  go_wp2_with fail
  refine (big_no a len cap w (by omega)).mono ?_
  rintro e w' ⟨rfl, rfl⟩
  go_wp2_with fail
  refine (drawFmt_any _ w HV.out hl).mono ?_
  rintro e w1 ⟨v1, t, rfl, hn, ⟨s1, rfl, hS⟩, hb1⟩
  obtain ⟨p, c, rfl⟩ := hS.form
  have hn1 : nodesS t.args ≤ 1048576 := by rw [t.nodes_eq] at hn; omega
  have hba := alloc_below w1 (.cells #[.int .i64 t.kind, .slice p t.args.length c] 26)
  have hx := Bx.new w1 t.kind (.slice p t.args.length c) 26
  obtain ⟨W1, hW1⟩ : ∃ W1, w1.alloc (.cells #[.int .i64 t.kind, .slice p t.args.length c] 26) = W1 := ⟨_, rfl⟩
  have HF := Lib.hid (imFmt_any (TT.of (t := t) (hS.keep hba)) hn1)
  rw [hW1] at hx hba
  have HT1 := Lib.hid (TT.of (t := t) (hS.keep hba))
  have HX1 := Lib.hid hx
  have HB1 := Lib.hid (hb1.trans (hba.mono hb1.size))
  have HW1 := Lib.hid hW1
  have HN := Lib.hid hn
  clear hS hb1 hba hx hW1 hn
  go_wp2_with fail
  refine HF.out.mono ?_
  rintro e w2 ⟨rfl, hb2⟩
  rw [HW1.out] at hb2
  have HB2 := Lib.hid hb2
  clear hb2
  go_wp2_with fail
  refine (parseI_text t w2).mono ?_
  rintro e w3 ⟨v3, rfl, hx3, hb3⟩
  obtain ⟨U, hU⟩ : ∃ U, (if t.valid then t else .mk 0 []) = U := ⟨_, rfl⟩
  rw [hU] at hx3
  obtain ⟨s3, rfl, hs3⟩ := hx3
  obtain ⟨p3, c3, rfl⟩ := hs3.form
  have hba := alloc_below w3 (.cells #[.int .i64 U.kind, .slice p3 U.args.length c3] 26)
  have hx3 := Bx.new w3 U.kind (.slice p3 U.args.length c3) 26
  obtain ⟨W3, hW3⟩ : ∃ W3, w3.alloc (.cells #[.int .i64 U.kind, .slice p3 U.args.length c3] 26) = W3 := ⟨_, rfl⟩
  rw [hW3] at hba hx3
  have hb13 := (HB2.out.trans (hb3.mono HB2.out.size)).trans (hba.mono (Nat.le_trans HB2.out.size hb3.size))
  have HU3 := Lib.hid (TT.of (t := U) (hs3.keep hba))
  have HT3 := Lib.hid (HT1.out.keep hb13)
  have HB3 := Lib.hid (HB1.out.trans (hb13.mono HB1.out.size))
  have HXT := Lib.hid (HX1.out.keep hb13)
  have HXU := Lib.hid hx3
  obtain ⟨f0, f1⟩ := HX1.out.keep hb13
  rw [← hW3] at f0 f1
  have HF3 := Lib.hid (spFmt_any (HT1.out.keep hb13) hn1)
  rw [← hW3] at HF3
  have HW3 := Lib.hid hW3
  have hnU : nodesS U.args ≤ 1048576 := by
    rw [← hU]
    split
    · exact hn1
    · simp [nodesS]
  have HU := Lib.hid hU
  clear hs3 hb3 hba hx3 hb13 hW3 hU
  cases hval : t.valid
  all_goals
    have HVL := Lib.hid hval
    clear hval
    go_wp2_with fail
    refine HF3.out.mono ?_
    rintro e w4 ⟨rfl, hb4⟩
    rw [HW3.out] at hb4
    have HB4 := Lib.hid hb4
    have HT4 := Lib.hid (HT3.out.keep hb4)
    obtain ⟨g0, g1⟩ := HXT.out.keep hb4
    clear f0 f1 hb4
    go_wp2_with fail
    refine (valid_any HT4.out hn1).mono ?_
    rintro e w5 ⟨r, hr, rfl, hb5⟩
    rw [HVL.out] at hr
    subst hr
    have HB5 := Lib.hid (HB4.out.trans (hb5.mono HB4.out.size))
    obtain ⟨h0, h1⟩ := HXT.out.keep (HB4.out.trans (hb5.mono HB4.out.size))
    obtain ⟨u0, u1⟩ := HXU.out.keep (HB4.out.trans (hb5.mono HB4.out.size))
    have HQ := Lib.hid (eqI_any (HU3.out.keep (HB4.out.trans (hb5.mono HB4.out.size))) (HT3.out.keep (HB4.out.trans (hb5.mono HB4.out.size))) hnU)
    clear g0 g1 hb5
    go_wp2_with fail
  · have HBX := Lib.hid (HB3.out.trans (HB5.out.mono HB3.out.size))
    clear h0 h1 u0 u1
    refine (drawParse_any _ w5 (HV.out.below HBX.out) hl).mono ?_
    rintro e w6 ⟨x, rfl, hxs, hb6⟩
    have HB6 := Lib.hid (HBX.out.trans (hb6.mono HBX.out.size))
    have hx9 : x.size ≤ 1073741824 := by omega
    clear hb6
    go_wp2_with fail
    refine (parseI_any x hx9 w6).mono ?_
    rintro e w7 ⟨v7, rfl, ho7, hb7⟩
    have HPS := Lib.hid (fun W => parseS_any x hx9 W)
    unfold ParseRet at HPS
    have hsm := parse_small x.data.toList
    have HFP := Lib.hid (fun T (h : parseT x.data.toList = some T) => (fmt_parse h).1)
    obtain ⟨Y, hY⟩ : ∃ Y, parseT x.data.toList = Y := ⟨_, rfl⟩
    rw [hY] at ho7 HPS hsm ⊢
    obtain ⟨T, hT⟩ : ∃ T, Y.getD (.mk 0 []) = T := ⟨_, rfl⟩
    rw [hT] at ho7 HPS hsm
    obtain ⟨s7, rfl, hs7⟩ := ho7.tt
    obtain ⟨p7, c7, rfl⟩ := hs7.form
    have hba := alloc_below w7 (.cells #[.int .i64 T.kind, .slice p7 T.args.length c7] 26)
    have HX7 := Lib.hid (Bx.new w7 T.kind (.slice p7 T.args.length c7) 26)
    have HT7 := Lib.hid (TT.of (t := T) (hs7.keep hba))
    have HB7 := Lib.hid ((HB6.out.trans (hb7.mono HB6.out.size)).trans (hba.mono (Nat.le_trans HB6.out.size hb7.size)))
    have HY := Lib.hid hY
    have HTY := Lib.hid hT
    have hn7 : nodesS T.args ≤ 1048576 := by omega
    clear ho7 hs7 hb7 hba hY hT hsm
    go_wp2_with fail
    refine (HPS.out _).mono ?_
    rintro e w8 ⟨v8, rfl, ht8, hb8⟩
    obtain ⟨s8, rfl, hs8⟩ := ht8
    obtain ⟨p8, c8, rfl⟩ := hs8.form
    have hba := alloc_below w8 (.cells #[.int .i64 T.kind, .slice p8 T.args.length c8] 26)
    have hb88 := hb8.trans (hba.mono hb8.size)
    have HB8 := Lib.hid (HB7.out.trans (hb88.mono HB7.out.size))
    obtain ⟨y0, y1⟩ := HX7.out.keep hb88
    have HF8 := Lib.hid (imFmt_any (HT7.out.keep hb88) hn7)
    clear hs8 hb8 hba hb88
    cases Y with
    | none =>
      go_wp2_with fail
      go_ret
      exact ⟨rfl, HB8.out⟩
    | some Z =>
      have hZ : T = Z := HTY.out.symm
      have hf : (fmtT T == x.toList) = true := by rw [beq_iff_eq, Lib.toList_data, hZ]; exact HFP.out Z HY.out
      clear hZ
      go_wp2_with fail
      refine HF8.out.mono ?_
      rintro e w9 ⟨rfl, hb9⟩
      have HB9 := Lib.hid (HB8.out.trans (hb9.mono HB8.out.size))
      clear hb9
      go_wp2_with fail
      go_ret
      exact ⟨rfl, HB9.out⟩
  · refine HQ.out.mono ?_
    rintro e w5b ⟨b, hb, rfl, hb5b⟩
    obtain rfl : b = true := hb.2 (by have := HU.out; rw [if_pos HVL.out] at this; exact this.symm)
    have hbx := HB5.out.trans (hb5b.mono HB5.out.size)
    have HBX := Lib.hid (HB3.out.trans (hbx.mono HB3.out.size))
    clear h0 h1 u0 u1 hb hb5b hbx
    go_wp2_with fail
    refine (drawParse_any _ w5b (HV.out.below HBX.out) hl).mono ?_
    rintro e w6 ⟨x, rfl, hxs, hb6⟩
    have HB6 := Lib.hid (HBX.out.trans (hb6.mono HBX.out.size))
    have hx9 : x.size ≤ 1073741824 := by omega
    clear hb6
    go_wp2_with fail
    refine (parseI_any x hx9 w6).mono ?_
    rintro e w7 ⟨v7, rfl, ho7, hb7⟩
    have HPS := Lib.hid (fun W => parseS_any x hx9 W)
    unfold ParseRet at HPS
    have hsm := parse_small x.data.toList
    have HFP := Lib.hid (fun T (h : parseT x.data.toList = some T) => (fmt_parse h).1)
    obtain ⟨Y, hY⟩ : ∃ Y, parseT x.data.toList = Y := ⟨_, rfl⟩
    rw [hY] at ho7 HPS hsm ⊢
    obtain ⟨T, hT⟩ : ∃ T, Y.getD (.mk 0 []) = T := ⟨_, rfl⟩
    rw [hT] at ho7 HPS hsm
    obtain ⟨s7, rfl, hs7⟩ := ho7.tt
    obtain ⟨p7, c7, rfl⟩ := hs7.form
    have hba := alloc_below w7 (.cells #[.int .i64 T.kind, .slice p7 T.args.length c7] 26)
    have HX7 := Lib.hid (Bx.new w7 T.kind (.slice p7 T.args.length c7) 26)
    have HT7 := Lib.hid (TT.of (t := T) (hs7.keep hba))
    have HB7 := Lib.hid ((HB6.out.trans (hb7.mono HB6.out.size)).trans (hba.mono (Nat.le_trans HB6.out.size hb7.size)))
    have HY := Lib.hid hY
    have HTY := Lib.hid hT
    have hn7 : nodesS T.args ≤ 1048576 := by omega
    clear ho7 hs7 hb7 hba hY hT hsm
    go_wp2_with fail
    refine (HPS.out _).mono ?_
    rintro e w8 ⟨v8, rfl, ht8, hb8⟩
    obtain ⟨s8, rfl, hs8⟩ := ht8
    obtain ⟨p8, c8, rfl⟩ := hs8.form
    have hba := alloc_below w8 (.cells #[.int .i64 T.kind, .slice p8 T.args.length c8] 26)
    have hb88 := hb8.trans (hba.mono hb8.size)
    have HB8 := Lib.hid (HB7.out.trans (hb88.mono HB7.out.size))
    obtain ⟨y0, y1⟩ := HX7.out.keep hb88
    have HF8 := Lib.hid (imFmt_any (HT7.out.keep hb88) hn7)
    clear hs8 hb8 hba hb88
    cases Y with
    | none =>
      go_wp2_with fail
      go_ret
      exact ⟨rfl, HB8.out⟩
    | some Z =>
      have hZ : T = Z := HTY.out.symm
      have hf : (fmtT T == x.toList) = true := by rw [beq_iff_eq, Lib.toList_data, hZ]; exact HFP.out Z HY.out
      clear hZ
      go_wp2_with fail
      refine HF8.out.mono ?_
      rintro e w9 ⟨rfl, hb9⟩
      have HB9 := Lib.hid (HB8.out.trans (hb9.mono HB8.out.size))
      clear hb9
      go_wp2_with fail
      go_ret
      exact ⟨rfl, HB9.out⟩

theorem lawTT_any (a : Option Addr) (len cap : Nat) (w : World) (hl : len ≤ 9223372036854775807) (hv : Bytes w (.slice a len cap)) :
    Calls Try.prog 4 #[.slice a len cap] w fun e w' => e = .returned (.bool true) ∧ Below w.heap.size w w' := by
  by_cases h : 1048576 < (len : Int)
  · exact lawTT_big a len cap w hl h
  · exact lawTT_small a len cap w (by omega) hv
#print axioms lawTT_any
end Go.Proofs.Ytnciibngcaajgaa

