/-
  The contract of the laws' szTypeS and szType: what is left of a bound behind a type, or -1.
-/
import Derived.Test.YtfeijijeohfpgaaDoorProg
import Derived.Test.YtfeijijeohfpgaaDoorTy
namespace Go.Proofs.YtfeijijeohfpgaaDoor
open Go Go.RowKit

/-- How the count ends. -/
def SzEnds (left : Int) (n : Nat) (r : Int) : Prop := (0 ≤ r ∧ r + n = left) ∨ (r = -1 ∧ left < n)
theorem SzEnds.range {left : Int} {n : Nat} {r : Int} (h : SzEnds left n r) (hl : 0 ≤ left) : -1 ≤ r ∧ r ≤ left := by
  unfold SzEnds at h
  omega
def IntRet (P : Int → Prop) (w : World) (e : Ending) (w' : World) : Prop := ∃ n : Int, P n ∧ e = .returned (.int .i64 n) ∧ Below w.heap.size w w'

set_option maxRecDepth 100000 in
set_option maxHeartbeats 1000000 in
theorem szT_of (k : Int) (p : Option Addr) (l c : Nat) (n : Nat) (left : Int) (w : World) (h0 : 0 ≤ left)
    (h : ∀ w', Below w.heap.size w w' → Calls Tryd.prog 54 #[.slice p l c, .int .i64 left] w' (IntRet (SzEnds left n) w')) :
    Calls Tryd.prog 29 #[.agg #[.int .i64 k, .slice p l c], .int .i64 left] w (IntRet (SzEnds left n) w) := by
  have HH := Lib.hid h
  have HB := Lib.hid ((Below.refl w.heap.size w).alloc (Nat.le_refl _) (Obj.cells #[.int .i64 k, .slice p l c] 24))
  clear h
  go_enter Tryd.func29, Tryd.ntmps29
  go_wp2_with fail
  refine (HH.out _ HB.out).mono ?_
  rintro e w1 ⟨r, hr, rfl, hb1⟩
  have hrg := hr.range h0
  have HR := Lib.hid hr
  have HB1 := Lib.hid (HB.out.trans (hb1.mono HB.out.size))
  clear hr hb1
  by_cases hneg : r < 0
  · go_wp2_with fail
    go_ret
    exact ⟨_, by have := HR.out; unfold SzEnds at *; omega, rfl, HB1.out⟩
  · go_wp2_with fail
    go_ret
    exact ⟨_, HR.out, rfl, HB1.out⟩

/-- k types have been counted: L is left. -/
def LeftAt (left : Int) (ts : List Ty) (k : Nat) (L : Int) : Prop := L + ts.length + (nodesS (ts.take k) - k : Nat) = left

theorem nodesS_take_ge (ts : List Ty) (k : Nat) (h : k ≤ ts.length) : k ≤ nodesS (ts.take k) := by
  have := nodesS_ge (ts.take k)
  rw [List.length_take] at this
  omega
theorem leftAt_next {left : Int} {ts : List Ty} {k : Nat} {L r : Int} (h : LeftAt left ts k L) (hk : k < ts.length) (hr : SzEnds L (nodesS ts[k].args) r) (h0 : 0 ≤ r) : LeftAt left ts (k + 1) r := by
  have h1 := nodesS_take ts k hk
  have h2 := nodesS_take_ge ts k (Nat.le_of_lt hk)
  unfold LeftAt SzEnds at *
  omega
theorem leftAt_over {left : Int} {ts : List Ty} {k : Nat} {L r : Int} (h : LeftAt left ts k L) (hk : k < ts.length) (hr : SzEnds L (nodesS ts[k].args) r) (h0 : r < 0) : SzEnds left (nodesS ts) (-1) := by
  have h1 := nodesS_take ts k hk
  have h2 := nodesS_take_ge ts k (Nat.le_of_lt hk)
  have h3 := nodesS_append (ts.take (k + 1)) (ts.drop (k + 1))
  rw [List.take_append_drop] at h3
  have h4 := nodesS_ge (ts.drop (k + 1))
  rw [List.length_drop] at h4
  unfold LeftAt SzEnds at *
  omega
theorem leftAt_end {left : Int} {ts : List Ty} {L : Int} (h : LeftAt left ts ts.length L) (h0 : 0 ≤ L) : SzEnds left (nodesS ts) L := by
  have h2 := nodesS_ge ts
  unfold LeftAt at h
  rw [List.take_length] at h
  unfold SzEnds
  omega

set_option maxRecDepth 100000 in
set_option maxHeartbeats 1000000 in
theorem szS_any {w0 : World} {C : Nat → Prop} {ts : List Ty} {v : Value} (h : TS w0 C ts v) : ∀ (w : World) (left : Int), Stays C w0 w → 0 ≤ left → left ≤ 1048576 →
    Calls Tryd.prog 54 #[v, .int .i64 left] w (IntRet (SzEnds left (nodesS ts)) w) := by
  induction h with
  | nil a c =>
    intro w left hst h0 hl
    go_enter Tryd.func54, Tryd.ntmps54
    go_wp2_with fail
    go_loop [1, 5] (fun l i => l = .int .i64 left ∧ i = .int .i64 0) (fun _ _ => 0)
    case atStart => exact ⟨rfl, rfl⟩
    case round =>
      obtain ⟨rfl, rfl⟩ := hrel
      go_wp2_with fail
      go_ret
      exact ⟨_, Or.inl ⟨h0, by simp [nodesS]⟩, rfl, Below.refl _ _⟩
  | @cons ts b o c S h1 hc hm hC hb hk hs hr ih =>
    intro w left hst h0 hl
    have T := Lib.hid (TS.cons S h1 hc hm hC hb hk hs hr)
    have HIH := Lib.hid ih
    have HST := Lib.hid hst
    have HK := Lib.hid (fun j x (e : ts[j]? = some x) (w' : World) (hw : Stays C w0 w') => (World.cell?_of_block (w := w0) (a := ⟨b, o + j * 2, none⟩) (hw.2 b hC hb)).trans (hk j x e))
    have HS := Lib.hid (fun j x (e : ts[j]? = some x) (w' : World) (hw : Stays C w0 w') => (World.cell?_of_block (w := w0) (a := ⟨b, o + j * 2 + 1, none⟩) (hw.2 b hC hb)).trans (hs j x e))
    have HF := Lib.hid (fun j x (e : ts[j]? = some x) => (hr j x e).form)
    clear hk hs hr ih hst hC hb
    go_enter Tryd.func54, Tryd.ntmps54
    by_cases hbig : left - (ts.length : Int) < 0
    · go_wp2_with fail
      go_ret
      exact ⟨_, Or.inr ⟨rfl, by have := nodesS_ge ts; omega⟩, rfl, Below.refl _ _⟩
    · go_wp2_with fail
      go_loopw [1, 5] (fun l i wr => ∃ (k : Nat) (L : Int), k ≤ ts.length ∧ 0 ≤ L ∧ L ≤ left ∧ i = .int .i64 k ∧ l = .int .i64 L ∧ LeftAt left ts k L ∧ Below w.heap.size w wr) (fun _ i _ => ts.length - (intOf i).toNat)
      case atStart => exact ⟨0, _, Nat.zero_le _, by omega, by omega, rfl, rfl, by unfold LeftAt; simp [nodesS], Below.refl _ _⟩
      case round =>
        obtain ⟨k, L, hk, hL0, hL1, rfl, rfl, hat, hbr⟩ := hrel
        have HA := Lib.hid hat
        have HB := Lib.hid hbr
        have hst : Stays C w0 wr := HST.out.trans (.of_below hbr)
        have HSR := Lib.hid hst
        clear hat hbr hst
        by_cases hlk : k < ts.length
        · have e := List.getElem?_eq_getElem hlk
          have c1 := HK.out k _ e wr HSR.out
          have c2 := HS.out k _ e wr HSR.out
          obtain ⟨p, q, hf⟩ := HF.out k _ e
          rw [hf] at c2
          have HC := Lib.hid (szT_of ts[k].kind p _ q (nodesS ts[k].args) L wr hL0 (fun w' hw' => hf ▸ HIH.out k _ e w' L (HSR.out.trans (.of_below hw')) hL0 (by omega)))
          clear e
          go_wp2_with fail
          refine HC.out.mono ?_
          rintro e w1 ⟨r, hr, rfl, hb1⟩
          have hrg := hr.range hL0
          have HR := Lib.hid hr
          have HB1 := Lib.hid (HB.out.trans (hb1.mono HB.out.size))
          clear hr hb1
          by_cases hneg : r < 0
          · go_wp2_with fail
            go_ret
            exact ⟨_, leftAt_over HA.out hlk HR.out hneg, rfl, HB1.out⟩
          · go_wp2_with fail
            go_roundw
            case rel => exact ⟨k + 1, r, by omega, by omega, by omega, by go_num, rfl, leftAt_next HA.out hlk HR.out (by omega), HB1.out⟩
            case measure => simp [intOf]; omega
        · obtain rfl : k = ts.length := by omega
          go_wp2_with fail
          go_ret
          exact ⟨_, leftAt_end HA.out hL0, rfl, HB.out⟩
/-- THE LAWS' szType, AT EVERY TYPE. -/
theorem szT_any {C : Nat → Prop} {t : Ty} {v : Value} {w : World} (h : TT w C t v) (left : Int) (h0 : 0 ≤ left) (hl : left ≤ 1048576) :
    Calls Tryd.prog 29 #[v, .int .i64 left] w (IntRet (SzEnds left (nodesS t.args)) w) := by
  obtain ⟨s, rfl, h⟩ := h
  obtain ⟨p, c, rfl⟩ := h.form
  exact szT_of t.kind p _ c _ left w h0 (fun w' hb => szS_any h w' left (.of_below hb) h0 hl)
#print axioms szT_any
end Go.Proofs.YtfeijijeohfpgaaDoor

