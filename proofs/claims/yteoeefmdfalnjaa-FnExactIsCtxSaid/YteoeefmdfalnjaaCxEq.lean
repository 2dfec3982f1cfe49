/-
  The contracts of the laws' eqTyping and eqTypingS: whether two typings, two contexts are the same.
-/
import Derived.Test.YteoeefmdfalnjaaCxA
import Derived.Test.YteoeefmdfalnjaaTyEq
import Derived.Test.YteoeefmdfalnjaaStrEq
import Derived.Test.YteoeefmdfalnjaaGen1
namespace Go.Proofs.Yteoeefmdfalnjaa
open Go Go.RowKit

set_option maxRecDepth 100000 in
set_option maxHeartbeats 2000000 in
theorem eqC_of {C C' : Nat → Prop} {x y : Tg} {p p' : Option Addr} {c c' : Nat} {w : World} (hT : TS w C x.ty.args (.slice p x.ty.args.length c)) (hU : TS w C' y.ty.args (.slice p' y.ty.args.length c')) :
    Calls Try.prog 21 #[tgV x p c, tgV y p' c'] w (BoolRet (fun b => b = true ↔ x = y) w) := by
  have HT := Lib.hid hT
  have HU := Lib.hid hU
  have hb1 := al_below w (.cells (tgC x p c) 43)
  have hb2 := al_below (w.alloc (.cells (tgC x p c) 43)) (.cells (tgC y p' c') 43)
  have hx2 := Bx4.new (w.alloc (.cells (tgC x p c) 43)) y p' c' 43
  rw [World.size_alloc] at hx2
  have HX1 := Lib.hid ((Bx4.new w x p c 43).keep hb2)
  have HX2 := Lib.hid hx2
  have HB0 := Lib.hid (hb1.trans (hb2.mono (by simp)))
  clear hT hU hb1 hb2 hx2
  go_enter Try.func21, Try.ntmps21
  by_cases hn : x.nm = y.nm
  rotate_left
  · have hn1 := str_no hn
    have HN := Lib.hid hn
    clear hn
    go_wp2_with fail
    go_ret
    exact ⟨false, by simp; exact fun e => HN.out (by rw [e]), rfl, HB0.out⟩
  have hn1 := str_yes hn
  have HN := Lib.hid hn
  clear hn
  have HC3 := Lib.hid (eqT_any (C := C) (C' := C') (t := x.ty) (u := y.ty) (v := .agg #[.int .i64 x.ty.kind, .slice p x.ty.args.length c]) (x := .agg #[.int .i64 y.ty.kind, .slice p' y.ty.args.length c']) ⟨_, rfl, HT.out.stays (.of_below HB0.out)⟩ ⟨_, rfl, HU.out.stays (.of_below HB0.out)⟩)
  go_wp2_with fail
  refine HC3.out.mono ?_
  rintro e w3 ⟨r3, hr3, rfl, hb3⟩
  have HR3 := Lib.hid hr3
  have HB3 := Lib.hid (HB0.out.trans (hb3.mono HB0.out.size))
  obtain ⟨_, _, _, g3⟩ := HX1.out.keep hb3
  obtain ⟨_, _, _, d3⟩ := HX2.out.keep hb3
  clear hr3 hb3 HC3
  cases r3
  · go_wp2_with fail
    go_ret
    exact ⟨false, by simp; exact fun e => (by have := HR3.out.2 (by rw [e]); cases this), rfl, HB3.out⟩
  by_cases hi : x.lv = y.lv
  rotate_left
  · go_wp2_with fail
    go_ret
    exact ⟨false, by simp; exact fun e => hi (by rw [e]), rfl, HB3.out⟩
  have hi1 : x.lv ≤ y.lv := by omega
  have hi2 : y.lv ≤ x.lv := by omega
  have HI := Lib.hid hi
  clear hi
  go_wp2_with fail
  go_ret
  have he : x.ty = y.ty := by simpa using HR3.out
  exact ⟨true, by simp only [true_iff]; exact Tg.ext' HN.out (by rw [he]) (by rw [he]) HI.out, rfl, HB3.out⟩

theorem keep8 {w W w1 : World} {p0 p1 p2 p3 p4 p5 p6 p7 : Addr} {v0 v1 v2 v3 v4 v5 v6 v7 : Value} (hb1 : Below W.heap.size W w1) (h : W.cell? p0 = some v0 ∧ W.cell? p1 = some v1 ∧ W.cell? p2 = some v2 ∧ W.cell? p3 = some v3 ∧ W.cell? p4 = some v4 ∧ W.cell? p5 = some v5 ∧ W.cell? p6 = some v6 ∧ W.cell? p7 = some v7 ∧ Below w.heap.size w W) : w1.cell? p0 = some v0 ∧ w1.cell? p1 = some v1 ∧ w1.cell? p2 = some v2 ∧ w1.cell? p3 = some v3 ∧ w1.cell? p4 = some v4 ∧ w1.cell? p5 = some v5 ∧ w1.cell? p6 = some v6 ∧ w1.cell? p7 = some v7 ∧ Below w.heap.size w w1 := by
  obtain ⟨h0, h1, h2, h3, h4, h5, h6, h7, hz⟩ := h
  exact ⟨keepN hb1 h0, keepN hb1 h1, keepN hb1 h2, keepN hb1 h3, keepN hb1 h4, keepN hb1 h5, keepN hb1 h6, keepN hb1 h7, hz.trans (hb1.mono hz.size)⟩
theorem cx_take_eq {L M : List Tg} {k : Nat} (h : L.take k = M.take k) (h1 : k < L.length) (h2 : k < M.length) (he : L[k] = M[k]) : L.take (k + 1) = M.take (k + 1) := by
  rw [List.take_add_one, List.take_add_one, h, List.getElem?_eq_getElem h1, List.getElem?_eq_getElem h2, he]
theorem cx_ne_at {L M : List Tg} {k : Nat} (h1 : k < L.length) (h2 : k < M.length) (hn : ¬ L[k] = M[k]) : L ≠ M := by
  intro e; subst e; exact hn rfl

set_option maxRecDepth 100000 in
set_option maxHeartbeats 2000000 in
/-- THE LAWS' eqTypingS, AT ANY TWO CONTEXTS. -/
theorem eqCS_any {C C' : Nat → Prop} {L M : List Tg} {v u : Value} {w : World} (h : DM w C (cxD L) v) (hu : DM w C' (cxD M) u) :
    Calls Try.prog 9 #[v, u] w (BoolRet (fun b => b = true ↔ L = M) w) := by
  obtain ⟨q, d, rfl⟩ := h.form
  obtain ⟨q', d', rfl⟩ := hu.form
  have hlen0 := h.len.1
  have hlen' := hu.len.1
  have HH := Lib.hid h
  have HU := Lib.hid hu
  clear h hu
  go_enter Try.func9, Try.ntmps9
  by_cases hlen : L.length = M.length
  rotate_left
  · have hne : ¬ (L = M) := fun e => hlen (by rw [e])
    have HN := Lib.hid hne
    clear hne
    go_wp2_with fail
    go_ret
    exact ⟨false, by simpa using HN.out, rfl, Below.refl _ _⟩
  have HL := Lib.hid hlen
  rw [← hlen]
  clear hlen
  go_wp2_with fail
  go_loopw [5] (fun i wr => ∃ (k : Nat), k ≤ L.length ∧ i = .int .i64 k ∧ L.take k = M.take k ∧ Below w.heap.size w wr) (fun i _ => L.length - (intOf i).toNat)
  case atStart => exact ⟨0, Nat.zero_le _, rfl, by simp, Below.refl _ _⟩
  case round =>
    obtain ⟨k, hk, rfl, htk, hbr⟩ := hrel
    have HTK := Lib.hid htk
    have HB := Lib.hid hbr
    clear htk
    by_cases hlk : k < L.length
    · have hlk2 : k < M.length := by rw [← HL.out]; exact hlk
      obtain ⟨b, o, p, c, rfl, hC, hb, h4, hT⟩ := cx_part HH.out k hlk
      obtain ⟨b2, o2, p2, c2, rfl, hC2, hb2, h42, hT2⟩ := cx_part HU.out k hlk2
      obtain ⟨g0, g1, g2, g3⟩ := h4 wr (.of_below hbr)
      obtain ⟨d0, d1, d2, d3⟩ := h42 wr (.of_below hbr)
      have HC := Lib.hid (eqC_of (w := wr.drew) (C := C) (C' := C') (x := L[k]) (y := M[k]) ((hT.stays (.of_below hbr)).stays (.of_below (Below.refl _ _).drew)) ((hT2.stays (.of_below hbr)).stays (.of_below (Below.refl _ _).drew)))
      have i0 : (0 : Int) ≤ (k : Int) := Int.natCast_nonneg _
      have i1 : (k : Int) < (L.length : Int) := by omega
      clear hC hb h4 hT hC2 hb2 h42 hT2 hbr
      go_wp2_with fail
      go_region_held3 (fun w' => w'.cell? ⟨b, o + k * 4, none⟩ = some (.string L[k].nm) ∧ w'.cell? ⟨b, o + k * 4 + 1, none⟩ = some (.int .i64 L[k].ty.kind) ∧ w'.cell? ⟨b, o + k * 4 + 2, none⟩ = some (.slice p L[k].ty.args.length c) ∧ w'.cell? ⟨b, o + k * 4 + 3, none⟩ = some (.int .i64 L[k].lv) ∧ w'.cell? ⟨b2, o2 + k * 4, none⟩ = some (.string M[k].nm) ∧ w'.cell? ⟨b2, o2 + k * 4 + 1, none⟩ = some (.int .i64 M[k].ty.kind) ∧ w'.cell? ⟨b2, o2 + k * 4 + 2, none⟩ = some (.slice p2 M[k].ty.args.length c2) ∧ w'.cell? ⟨b2, o2 + k * 4 + 3, none⟩ = some (.int .i64 M[k].lv) ∧ Below w.heap.size w w')
        (first
          | (go_keep; done)
          | exact ⟨g0, g1, g2, g3, d0, d1, d2, d3, HB.out.drew⟩
          | exact keep8 hb1 (by assumption))
        (first
          | (go_at_call 21; refine HC.out.mono ?_; rintro e w1 ⟨r, hr, rfl, hb1⟩))
      have HR := Lib.hid hr
      have HB1 := Lib.hid (HB.out.trans (((Below.refl _ _).drew.trans hb1).mono HB.out.size))
      rename_i hH
      clear hH hb1 hr g0 g1 g2 g3 d0 d1 d2 d3
      cases r with
      | true =>
        go_wp2_with fail
        go_roundw
        case rel => exact ⟨k + 1, by omega, by go_num, cx_take_eq HTK.out hlk hlk2 (HR.out.1 rfl), HB1.out⟩
        case measure => simp [intOf]; omega
      | false =>
        go_wp2_with fail
        go_ret
        exact ⟨false, by simpa using cx_ne_at hlk hlk2 (fun e => by simpa using HR.out.2 e), rfl, HB1.out⟩
    · obtain rfl : k = L.length := by omega
      have htk : L = M := by
        have := HTK.out
        rw [List.take_length, HL.out, List.take_length] at this
        exact this
      have HE := Lib.hid htk
      clear htk
      go_wp2_with fail
      go_ret
      exact ⟨true, by simpa using HE.out, rfl, HB.out⟩
#print axioms eqCS_any
end Go.Proofs.Yteoeefmdfalnjaa

