/-
  The contracts of the laws' szTyping and szTypingS: what is left of a bound behind a typing, behind a context, or -1.
-/
import Derived.Test.YteoeefmdfalnjaaProg
import Derived.Test.YteoeefmdfalnjaaCxA
import Derived.Test.YteoeefmdfalnjaaTySz
namespace Go.Proofs.Yteoeefmdfalnjaa
open Go Go.RowKit

set_option maxRecDepth 100000 in
set_option maxHeartbeats 2000000 in
theorem szC_of {C : Nat → Prop} {x : Tg} {p : Option Addr} {c : Nat} {w : World} (left : Int) (h0 : 0 ≤ left) (hl : left ≤ 1048576) (hT : TS w C x.ty.args (.slice p x.ty.args.length c)) (hf : x.nm.size ≤ 9223372036854775807) :
    Calls Try.prog 14 #[tgV x p c, .int .i64 left] w (IntRet (SzEnds left x.wt) w) := by
  have HT := Lib.hid hT
  have HB0 := Lib.hid (al_below w (.cells (tgC x p c) 37))
  have HX0 := Lib.hid (Bx4.new w x p c 37)
  have HW := Lib.hid (show x.wt = x.nm.size + nodesS x.ty.args from rfl)
  clear hT
  go_enter Try.func14, Try.ntmps14
  by_cases c1 : left - (x.nm.size : Int) < 0
  · go_wp2_with fail
    go_ret
    exact ⟨_, Or.inr ⟨rfl, by have := HW.out; omega⟩, rfl, HB0.out⟩
  have HC3 := Lib.hid (szT_any (C := C) (t := x.ty) (v := .agg #[.int .i64 x.ty.kind, .slice p x.ty.args.length c]) ⟨_, rfl, HT.out.keep HB0.out⟩ (left - (x.nm.size : Int)) (by omega) (by omega))
  go_wp2_with fail
  refine HC3.out.mono ?_
  rintro e w3 ⟨r3, hr3, rfl, hb3⟩
  have rg3 := hr3.range (by omega)
  have HR3 := Lib.hid hr3
  have HB3 := Lib.hid (HB0.out.trans (hb3.mono HB0.out.size))
  clear hr3 hb3 HC3
  by_cases c3 : r3 < 0
  · go_wp2_with fail
    go_ret
    exact ⟨_, Or.inr ⟨rfl, by have := HW.out; have := HR3.out; unfold SzEnds at this; omega⟩, rfl, HB3.out⟩
  · go_wp2_with fail
    go_ret
    exact ⟨_, by have := HW.out; have := HR3.out; unfold SzEnds at *; omega, rfl, HB3.out⟩

/-- k typings have been counted: l is left. -/
def LeftC (left : Int) (L : List Tg) (k : Nat) (l : Int) : Prop := l + L.length + (wtC (L.take k) - k : Nat) = left
theorem wtC_take_ge (L : List Tg) (k : Nat) (h : k ≤ L.length) : k ≤ wtC (L.take k) := by
  have := wtC_ge (L.take k)
  rw [List.length_take] at this
  omega
theorem leftC_next {left : Int} {L : List Tg} {k : Nat} {l r : Int} (h : LeftC left L k l) (hk : k < L.length) (hr : SzEnds l L[k].wt r) (h0 : 0 ≤ r) : LeftC left L (k + 1) r := by
  have h1 := wtC_take L k hk
  have h2 := wtC_take_ge L k (Nat.le_of_lt hk)
  unfold LeftC SzEnds at *
  omega
theorem leftC_over {left : Int} {L : List Tg} {k : Nat} {l r : Int} (h : LeftC left L k l) (hk : k < L.length) (hr : SzEnds l L[k].wt r) (h0 : r < 0) : SzEnds left (wtC L) (-1) := by
  have h1 := wtC_take L k hk
  have h2 := wtC_take_ge L k (Nat.le_of_lt hk)
  have h3 := wtC_append (L.take (k + 1)) (L.drop (k + 1))
  rw [List.take_append_drop] at h3
  have h4 := wtC_ge (L.drop (k + 1))
  rw [List.length_drop] at h4
  unfold LeftC SzEnds at *
  omega
theorem leftC_end {left : Int} {L : List Tg} {l : Int} (h : LeftC left L L.length l) (h0 : 0 ≤ l) : SzEnds left (wtC L) l := by
  have h2 := wtC_ge L
  unfold LeftC at h
  rw [List.take_length] at h
  unfold SzEnds
  omega

set_option maxRecDepth 100000 in
set_option maxHeartbeats 1000000 in
/-- THE LAWS' szTypingS, AT EVERY CONTEXT. -/
theorem szCS_any {C : Nat → Prop} {L : List Tg} {v : Value} {w : World} (h : DM w C (cxD L) v) (left : Int) (h0 : 0 ≤ left) (hl : left ≤ 1048576) (hfit : fitC L) :
    Calls Try.prog 5 #[v, .int .i64 left] w (IntRet (SzEnds left (wtC L)) w) := by
  obtain ⟨q, d, rfl⟩ := h.form
  have hlen := h.len.1
  have HH := Lib.hid h
  have HF := Lib.hid hfit
  clear h hfit
  go_enter Try.func5, Try.ntmps5
  by_cases hbig : left - (L.length : Int) < 0
  · go_wp2_with fail
    go_ret
    exact ⟨_, Or.inr ⟨rfl, by have := wtC_ge L; omega⟩, rfl, Below.refl _ _⟩
  · go_wp2_with fail
    go_loopw [1, 5] (fun l i wr => ∃ (k : Nat) (l' : Int), k ≤ L.length ∧ 0 ≤ l' ∧ l' ≤ left ∧ i = .int .i64 k ∧ l = .int .i64 l' ∧ LeftC left L k l' ∧ Below w.heap.size w wr) (fun _ i _ => L.length - (intOf i).toNat)
    case atStart => exact ⟨0, _, Nat.zero_le _, by omega, by omega, rfl, rfl, by unfold LeftC; simp [wtC], Below.refl _ _⟩
    case round =>
      obtain ⟨k, l', hk, hL0, hL1, rfl, rfl, hat, hbr⟩ := hrel
      have HA := Lib.hid hat
      have HB := Lib.hid hbr
      clear hat hbr
      by_cases hlk : k < L.length
      · obtain ⟨b, o, p, c, rfl, hC, hb, h4, hT⟩ := cx_part HH.out k hlk
        obtain ⟨g0, g1, g2, g3⟩ := h4 wr (.of_below HB.out)
        have HC := Lib.hid (szC_of (C := C) l' hL0 (by omega) (hT.stays (.of_below HB.out)) (HF.out.at hlk))
        have i0 : (0 : Int) ≤ (k : Int) := Int.natCast_nonneg _
        have i1 : (k : Int) < (L.length : Int) := by omega
        clear hC hb h4 hT
        go_wp2_with fail
        refine HC.out.mono ?_
        rintro e w1 ⟨r, hr, rfl, hb1⟩
        have hrg := hr.range hL0
        have HR := Lib.hid hr
        have HB1 := Lib.hid (HB.out.trans (hb1.mono HB.out.size))
        clear hr hb1
        by_cases hneg : r < 0
        · go_wp2_with fail
          go_ret
          exact ⟨_, leftC_over HA.out hlk HR.out hneg, rfl, HB1.out⟩
        · go_wp2_with fail
          go_roundw
          case rel => exact ⟨k + 1, r, by omega, by omega, by omega, by go_num, rfl, leftC_next HA.out hlk HR.out (by omega), HB1.out⟩
          case measure => simp [intOf]; omega
      · obtain rfl : k = L.length := by omega
        go_wp2_with fail
        go_ret
        exact ⟨_, leftC_end HA.out hL0, rfl, HB.out⟩
#print axioms szCS_any
end Go.Proofs.Yteoeefmdfalnjaa

