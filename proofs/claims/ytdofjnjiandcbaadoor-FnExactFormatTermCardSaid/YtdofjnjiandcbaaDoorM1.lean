/-
  Several texts of the proof in one (each says below what it holds): Kit Ty TySz TyEq OwnT TyCopy TyInd OpenT RowN Dat Dat2 Tm TmSz OpenM StrEq TmEq TmCopy TmCopy2 SpecTy SpecTy2 SpecTy3 TyText TmSpec Reduce Apply IsName TmNode TmNode2 TmFields0 TmFieldsSix.
-/
import Derived.WalkKit
import Derived.WalkSpells
import Derived.WalkLawsBesides
import Derived.Lib.Hide
import Derived.Laws.IdiomStrings
import Derived.OwnWalk
import Derived.Below
import Derived.Test.YtdofjnjiandcbaaDoorProg
import Derived.Deep.RegionHeld3
import Derived.WalkSmall
import Derived.Laws.OwnMore
import Derived.Lib.SmallJoins
import Derived.Laws.AppendOwn
import Derived.ArgAppend
import Derived.OwnWalkIn
import Derived.Deep.RegionLaw
import Derived.Laws.Strings
import Derived.Laws.RangeAny
import Derived.LoopTactic
/- Kit: Small facts of no program that the walks of this folder want: a one-byte string made out of a slice literal, strings put together. -/
namespace Go.Proofs.YtdofjnjiandcbaaDoor
open Go Go.RowKit

/-- 'string([]byte{b})' behind the laying of the literal's block. -/
theorem run_string_byte {P : Program} (w : World) (src dst e : TypeId) (n : Int) (h0 : 0 ≤ n) (h1 : n ≤ 255)
    (hs : P.underlying src = some (.slice e)) (he : P.underlying e = some (.int .u8)) (hd : P.underlying dst = some .string) :
    (convert src dst (.slice (some ⟨w.heap.size, 0, none⟩) 1 1)).run P (w.alloc (.cells #[.int .u8 n] e)) = .ok (.string ⟨#[UInt8.ofNat n.toNat]⟩) (w.alloc (.cells #[.int .u8 n] e)) := by
  have h := run_convert_bytes_back (P := P) (w.alloc (.cells #[.int .u8 n] e)) src dst e ⟨w.heap.size, 0, none⟩ 1 [UInt8.ofNat n.toNat] hs he hd (fun j hj => by
    have hj0 : j = 0 := by simpa using hj
    subst hj0
    have : (UInt8.ofNat n.toNat).toNat = n.toNat := by simp; omega
    show (w.alloc (.cells #[.int .u8 n] e)).cell? ⟨w.heap.size, 0, none⟩ = _
    rw [World.cell?_alloc_mark]
    simp only [List.getElem_cons_zero, this]
    rw [Int.toNat_of_nonneg h0]
    rfl)
  exact h

theorem str_cons (b : UInt8) (l : List UInt8) : (⟨#[b]⟩ : ByteArray) ++ ⟨l.toArray⟩ = ⟨(b :: l).toArray⟩ := by
  apply ByteArray.ext
  simp
end Go.Proofs.YtdofjnjiandcbaaDoor
/- Ty: Types ts trees, of no program: what a slice of types holds, that it holds it in every world that keeps its blocks; how many nodes there are. -/
namespace Go.Proofs.YtdofjnjiandcbaaDoor
open Go Go.RowKit

inductive Ty where
  | mk (kind : Int) (args : List Ty)
def Ty.kind : Ty → Int | .mk k _ => k
def Ty.args : Ty → List Ty | .mk _ ts => ts
@[simp] theorem Ty.kind_mk (k : Int) (ts : List Ty) : (Ty.mk k ts).kind = k := rfl
@[simp] theorem Ty.args_mk (k : Int) (ts : List Ty) : (Ty.mk k ts).args = ts := rfl

mutual
/-- The nodes of a type; of a list of types. -/
def Ty.nodes : Ty → Nat
  | .mk _ ts => 1 + nodesS ts
def nodesS : List Ty → Nat
  | [] => 0
  | a :: ts => a.nodes + nodesS ts
end
theorem Ty.nodes_eq (t : Ty) : t.nodes = 1 + nodesS t.args := by cases t; simp [Ty.nodes]
theorem nodesS_append (a b : List Ty) : nodesS (a ++ b) = nodesS a + nodesS b := by
  induction a with
  | nil => simp [nodesS]
  | cons x a ih => simp only [List.cons_append, nodesS, ih]; omega
theorem nodesS_take (ts : List Ty) (k : Nat) (h : k < ts.length) : nodesS (ts.take (k + 1)) = nodesS (ts.take k) + (1 + nodesS ts[k].args) := by
  rw [List.take_add_one, List.getElem?_eq_getElem h, nodesS_append]
  simp [nodesS, Ty.nodes_eq]
theorem nodesS_take_le (ts : List Ty) (k : Nat) : nodesS (ts.take k) ≤ nodesS ts := by
  have h := nodesS_append (ts.take k) (ts.drop k)
  rw [List.take_append_drop] at h
  omega
theorem nodesS_ge (ts : List Ty) : ts.length ≤ nodesS ts := by
  induction ts with
  | nil => simp
  | cons a ts ih => simp only [List.length_cons, nodesS, Ty.nodes_eq]; omega
theorem nodesS_at (ts : List Ty) (k : Nat) (h : k < ts.length) : 1 + nodesS ts[k].args ≤ nodesS ts := by
  have h1 := nodesS_take ts k h
  have h2 := nodesS_take_le ts (k + 1)
  omega

/-- The slice holds just these types; C: the blocks it may lie in. -/
inductive TS (w : World) (C : Nat → Prop) : List Ty → Value → Prop
  | nil (a : Option Addr) (c : Nat) : TS w C [] (.slice a 0 c)
  | cons {ts : List Ty} {b o c : Nat} (S : Nat → Value) (h1 : 1 ≤ ts.length) (hc : ts.length ≤ c) (hm : c ≤ 9223372036854775807) (hC : C b) (hb : b < w.heap.size)
      (hk : ∀ j x, ts[j]? = some x → w.cell? ⟨b, o + j * 2, none⟩ = some (.int .i64 x.kind))
      (hs : ∀ j x, ts[j]? = some x → w.cell? ⟨b, o + j * 2 + 1, none⟩ = some (S j))
      (hr : ∀ j x, ts[j]? = some x → TS w C x.args (S j)) : TS w C ts (.slice (some ⟨b, o, none⟩) ts.length c)

/-- What stays ts it was in the blocks of C. -/
def Stays (C : Nat → Prop) (w w' : World) : Prop := w.heap.size ≤ w'.heap.size ∧ ∀ b, C b → b < w.heap.size → w'.heap[b]? = w.heap[b]?
theorem Stays.of_below {C : Nat → Prop} {w w' : World} (h : Below w.heap.size w w') : Stays C w w' := ⟨h.size, fun b _ hb => h.block b hb⟩
theorem Stays.refl (C : Nat → Prop) (w : World) : Stays C w w := ⟨Nat.le_refl _, fun _ _ _ => rfl⟩
theorem Stays.mono {C C' : Nat → Prop} {w w' : World} (h : Stays C w w') (hc : ∀ z, C' z → C z) : Stays C' w w' := ⟨h.1, fun b hb hl => h.2 b (hc b hb) hl⟩
theorem Stays.trans {C : Nat → Prop} {a b c : World} (h : Stays C a b) (k : Stays C b c) : Stays C a c :=
  ⟨Nat.le_trans h.1 k.1, fun i hi hl => (k.2 i hi (Nat.lt_of_lt_of_le hl h.1)).trans (h.2 i hi hl)⟩

theorem TS.stays {w w' : World} {C : Nat → Prop} {ts : List Ty} {v : Value} (h : TS w C ts v) (hs : Stays C w w') : TS w' C ts v := by
  induction h with
  | nil a c => exact .nil a c
  | cons S h1 hc hm hC hb hk hS hr ih =>
    refine .cons S h1 hc hm hC (Nat.lt_of_lt_of_le hb hs.1) (fun j x hj => ?_) (fun j x hj => ?_) ih
    · rw [World.cell?_of_block (w := _) (hs.2 _ hC hb)]; exact hk j x hj
    · rw [World.cell?_of_block (w := _) (hs.2 _ hC hb)]; exact hS j x hj
theorem TS.keep {w w' : World} {C : Nat → Prop} {ts : List Ty} {v : Value} (h : TS w C ts v) (hb : Below w.heap.size w w') : TS w' C ts v := h.stays (.of_below hb)
theorem TS.mono {w : World} {C C' : Nat → Prop} {ts : List Ty} {v : Value} (h : TS w C ts v) (hC' : ∀ b, C b → b < w.heap.size → C' b) : TS w C' ts v := by
  induction h with
  | nil a c => exact .nil a c
  | cons S h1 hc hm hC hb hk hS hr ih => exact .cons S h1 hc hm (hC' _ hC hb) hb hk hS ih

/-- A struct value that is the type t. -/
def TT (w : World) (C : Nat → Prop) (t : Ty) (v : Value) : Prop := ∃ s, v = .agg #[.int .i64 t.kind, s] ∧ TS w C t.args s
theorem TT.keep {w w' : World} {C : Nat → Prop} {t : Ty} {v : Value} (h : TT w C t v) (hb : Below w.heap.size w w') : TT w' C t v := by
  obtain ⟨s, hv, h⟩ := h
  exact ⟨s, hv, h.keep hb⟩
theorem TS.form {w : World} {C : Nat → Prop} {ts : List Ty} {v : Value} (h : TS w C ts v) : ∃ a c, v = .slice a ts.length c := by
  cases h with
  | nil a c => exact ⟨a, c, rfl⟩
  | cons => exact ⟨_, _, rfl⟩
theorem TS.len {w : World} {C : Nat → Prop} {ts : List Ty} {v : Value} (h : TS w C ts v) : ts.length ≤ 9223372036854775807 := by
  cases h with
  | nil => simp
  | cons S h1 hc hm => omega
end Go.Proofs.YtdofjnjiandcbaaDoor
/- TySz: The contract of the laws' szTypeS and szType: what is left of a bound behind a type, or -1. -/
namespace Go.Proofs.YtdofjnjiandcbaaDoor
open Go Go.RowKit

/-- How the count ends. -/
def SzEnds (left : Int) (n : Nat) (r : Int) : Prop := (0 ≤ r ∧ r + n = left) ∨ (r = -1 ∧ left < n)
theorem SzEnds.range {left : Int} {n : Nat} {r : Int} (h : SzEnds left n r) (hl : 0 ≤ left) : -1 ≤ r ∧ r ≤ left := by
  unfold SzEnds at h
  omega
def IntRet (P : Int → Prop) (w : World) (e : Ending) (w' : World) : Prop := ∃ n : Int, P n ∧ e = .returned (.int .i64 n) ∧ Below w.heap.size w w'

set_option maxRecDepth 100000 in
set_option maxHeartbeats 1000000 in
theorem szT_of (k : Int) (p : Option Addr) (l c : Nat) (n : Nat) (left : Int) (w : World) (h0 : 0 ≤ left)
    (h : ∀ w', Below w.heap.size w w' → Calls Tryd.prog 26 #[.slice p l c, .int .i64 left] w' (IntRet (SzEnds left n) w')) :
    Calls Tryd.prog 12 #[.agg #[.int .i64 k, .slice p l c], .int .i64 left] w (IntRet (SzEnds left n) w) := by
  have HH := Lib.hid h
  have HB := Lib.hid ((Below.refl w.heap.size w).alloc (Nat.le_refl _) (Obj.cells #[.int .i64 k, .slice p l c] 24))
  clear h
  go_enter Tryd.func12, Tryd.ntmps12
  go_wp2_with fail
  refine (HH.out _ HB.out).mono ?_
  rintro e w1 ⟨r, hr, rfl, hb1⟩
  have hrg := hr.range h0
  have HR := Lib.hid hr
  have HB1 := Lib.hid (HB.out.trans (hb1.mono HB.out.size))
  clear hr hb1
  by_cases hneg : r < 0
  · go_wp2_with fail
    go_ret
    exact ⟨_, by have := HR.out; unfold SzEnds at *; omega, rfl, HB1.out⟩
  · go_wp2_with fail
    go_ret
    exact ⟨_, HR.out, rfl, HB1.out⟩

/-- k types have been counted: L is left. -/
def LeftAt (left : Int) (ts : List Ty) (k : Nat) (L : Int) : Prop := L + ts.length + (nodesS (ts.take k) - k : Nat) = left

theorem nodesS_take_ge (ts : List Ty) (k : Nat) (h : k ≤ ts.length) : k ≤ nodesS (ts.take k) := by
  have := nodesS_ge (ts.take k)
  rw [List.length_take] at this
  omega
theorem leftAt_next {left : Int} {ts : List Ty} {k : Nat} {L r : Int} (h : LeftAt left ts k L) (hk : k < ts.length) (hr : SzEnds L (nodesS ts[k].args) r) (h0 : 0 ≤ r) : LeftAt left ts (k + 1) r := by
  have h1 := nodesS_take ts k hk
  have h2 := nodesS_take_ge ts k (Nat.le_of_lt hk)
  unfold LeftAt SzEnds at *
  omega
theorem leftAt_over {left : Int} {ts : List Ty} {k : Nat} {L r : Int} (h : LeftAt left ts k L) (hk : k < ts.length) (hr : SzEnds L (nodesS ts[k].args) r) (h0 : r < 0) : SzEnds left (nodesS ts) (-1) := by
  have h1 := nodesS_take ts k hk
  have h2 := nodesS_take_ge ts k (Nat.le_of_lt hk)
  have h3 := nodesS_append (ts.take (k + 1)) (ts.drop (k + 1))
  rw [List.take_append_drop] at h3
  have h4 := nodesS_ge (ts.drop (k + 1))
  rw [List.length_drop] at h4
  unfold LeftAt SzEnds at *
  omega
theorem leftAt_end {left : Int} {ts : List Ty} {L : Int} (h : LeftAt left ts ts.length L) (h0 : 0 ≤ L) : SzEnds left (nodesS ts) L := by
  have h2 := nodesS_ge ts
  unfold LeftAt at h
  rw [List.take_length] at h
  unfold SzEnds
  omega

set_option maxRecDepth 100000 in
set_option maxHeartbeats 1000000 in
theorem szS_any {w0 : World} {C : Nat → Prop} {ts : List Ty} {v : Value} (h : TS w0 C ts v) : ∀ (w : World) (left : Int), Stays C w0 w → 0 ≤ left → left ≤ 1048576 →
    Calls Tryd.prog 26 #[v, .int .i64 left] w (IntRet (SzEnds left (nodesS ts)) w) := by
  induction h with
  | nil a c =>
    intro w left hst h0 hl
    go_enter Tryd.func26, Tryd.ntmps26
    go_wp2_with fail
    go_loop [1, 5] (fun l i => l = .int .i64 left ∧ i = .int .i64 0) (fun _ _ => 0)
    case atStart => exact ⟨rfl, rfl⟩
    case round =>
      obtain ⟨rfl, rfl⟩ := hrel
      go_wp2_with fail
      go_ret
      exact ⟨_, Or.inl ⟨h0, by simp [nodesS]⟩, rfl, Below.refl _ _⟩
  | @cons ts b o c S h1 hc hm hC hb hk hs hr ih =>
    intro w left hst h0 hl
    have T := Lib.hid (TS.cons S h1 hc hm hC hb hk hs hr)
    have HIH := Lib.hid ih
    have HST := Lib.hid hst
    have HK := Lib.hid (fun j x (e : ts[j]? = some x) (w' : World) (hw : Stays C w0 w') => (World.cell?_of_block (w := w0) (a := ⟨b, o + j * 2, none⟩) (hw.2 b hC hb)).trans (hk j x e))
    have HS := Lib.hid (fun j x (e : ts[j]? = some x) (w' : World) (hw : Stays C w0 w') => (World.cell?_of_block (w := w0) (a := ⟨b, o + j * 2 + 1, none⟩) (hw.2 b hC hb)).trans (hs j x e))
    have HF := Lib.hid (fun j x (e : ts[j]? = some x) => (hr j x e).form)
    clear hk hs hr ih hst hC hb
    go_enter Tryd.func26, Tryd.ntmps26
    by_cases hbig : left - (ts.length : Int) < 0
    · go_wp2_with fail
      go_ret
      exact ⟨_, Or.inr ⟨rfl, by have := nodesS_ge ts; omega⟩, rfl, Below.refl _ _⟩
    · go_wp2_with fail
      go_loopw [1, 5] (fun l i wr => ∃ (k : Nat) (L : Int), k ≤ ts.length ∧ 0 ≤ L ∧ L ≤ left ∧ i = .int .i64 k ∧ l = .int .i64 L ∧ LeftAt left ts k L ∧ Below w.heap.size w wr) (fun _ i _ => ts.length - (intOf i).toNat)
      case atStart => exact ⟨0, _, Nat.zero_le _, by omega, by omega, rfl, rfl, by unfold LeftAt; simp [nodesS], Below.refl _ _⟩
      case round =>
        obtain ⟨k, L, hk, hL0, hL1, rfl, rfl, hat, hbr⟩ := hrel
        have HA := Lib.hid hat
        have HB := Lib.hid hbr
        have hst : Stays C w0 wr := HST.out.trans (.of_below hbr)
        have HSR := Lib.hid hst
        clear hat hbr hst
        by_cases hlk : k < ts.length
        · have e := List.getElem?_eq_getElem hlk
          have c1 := HK.out k _ e wr HSR.out
          have c2 := HS.out k _ e wr HSR.out
          obtain ⟨p, q, hf⟩ := HF.out k _ e
          rw [hf] at c2
          have HC := Lib.hid (szT_of ts[k].kind p _ q (nodesS ts[k].args) L wr hL0 (fun w' hw' => hf ▸ HIH.out k _ e w' L (HSR.out.trans (.of_below hw')) hL0 (by omega)))
          clear e
          go_wp2_with fail
          refine HC.out.mono ?_
          rintro e w1 ⟨r, hr, rfl, hb1⟩
          have hrg := hr.range hL0
          have HR := Lib.hid hr
          have HB1 := Lib.hid (HB.out.trans (hb1.mono HB.out.size))
          clear hr hb1
          by_cases hneg : r < 0
          · go_wp2_with fail
            go_ret
            exact ⟨_, leftAt_over HA.out hlk HR.out hneg, rfl, HB1.out⟩
          · go_wp2_with fail
            go_roundw
            case rel => exact ⟨k + 1, r, by omega, by omega, by omega, by go_num, rfl, leftAt_next HA.out hlk HR.out (by omega), HB1.out⟩
            case measure => simp [intOf]; omega
        · obtain rfl : k = ts.length := by omega
          go_wp2_with fail
          go_ret
          exact ⟨_, leftAt_end HA.out hL0, rfl, HB.out⟩
/-- THE LAWS' szType, AT EVERY TYPE. -/
theorem szT_any {C : Nat → Prop} {t : Ty} {v : Value} {w : World} (h : TT w C t v) (left : Int) (h0 : 0 ≤ left) (hl : left ≤ 1048576) :
    Calls Tryd.prog 12 #[v, .int .i64 left] w (IntRet (SzEnds left (nodesS t.args)) w) := by
  obtain ⟨s, rfl, h⟩ := h
  obtain ⟨p, c, rfl⟩ := h.form
  exact szT_of t.kind p _ c _ left w h0 (fun w' hb => szS_any h w' left (.of_below hb) h0 hl)
#print axioms szT_any
end Go.Proofs.YtdofjnjiandcbaaDoor
/- TyEq: The contract of the laws' eqTypeS and eqType: whether two types are the same. -/
namespace Go.Proofs.YtdofjnjiandcbaaDoor
open Go Go.RowKit

def BoolRet (P : Bool → Prop) (w : World) (e : Ending) (w' : World) : Prop := ∃ b : Bool, P b ∧ e = .returned (.bool b) ∧ Below w.heap.size w w'

theorem Ty.ext {a b : Ty} (h1 : a.kind = b.kind) (h2 : a.args = b.args) : a = b := by
  cases a; cases b; simp at h1 h2; rw [h1, h2]

set_option maxRecDepth 100000 in
set_option maxHeartbeats 1000000 in
theorem eqT_of (k k2 : Int) (p p2 : Option Addr) (l c l2 c2 : Nat) (Q : Prop) (w : World)
    (h : ∀ w', Below w.heap.size w w' → Calls Tryd.prog 38 #[.slice p l c, .slice p2 l2 c2] w' (BoolRet (fun b => b = true ↔ Q) w')) :
    Calls Tryd.prog 22 #[.agg #[.int .i64 k, .slice p l c], .agg #[.int .i64 k2, .slice p2 l2 c2]] w (BoolRet (fun b => b = true ↔ (k = k2 ∧ Q)) w) := by
  have HH := Lib.hid h
  have HB := Lib.hid (((Below.refl w.heap.size w).alloc (Nat.le_refl _) (Obj.cells #[.int .i64 k, .slice p l c] 32)).alloc (by simp) (Obj.cells #[.int .i64 k2, .slice p2 l2 c2] 32))
  clear h
  go_enter Tryd.func22, Tryd.ntmps22
  by_cases hk : k = k2
  · subst hk
    go_wp2_with fail
    refine (HH.out _ HB.out).mono ?_
    rintro e w1 ⟨r, hr, rfl, hb1⟩
    have HR := Lib.hid hr
    have HB1 := Lib.hid (HB.out.trans (hb1.mono HB.out.size))
    clear hr hb1
    cases r with
    | true =>
      go_wp2_with fail
      go_ret
      exact ⟨true, by simpa using HR.out, rfl, HB1.out⟩
    | false =>
      go_wp2_with fail
      go_ret
      exact ⟨false, by simpa using HR.out, rfl, HB1.out⟩
  · go_wp2_with fail
    go_ret
    exact ⟨false, by simp [hk], rfl, HB.out⟩

theorem keep4 {w W w1 : World} {p1 p2 p3 p4 : Addr} {v1 v2 v3 v4 : Value} (hb1 : Below W.heap.size W w1) (h : W.cell? p1 = some v1 ∧ W.cell? p2 = some v2 ∧ W.cell? p3 = some v3 ∧ W.cell? p4 = some v4 ∧ Below w.heap.size w W) :
    w1.cell? p1 = some v1 ∧ w1.cell? p2 = some v2 ∧ w1.cell? p3 = some v3 ∧ w1.cell? p4 = some v4 ∧ Below w.heap.size w w1 :=
  ⟨(hb1.cell (World.block_lt_of_cell? W _ h.1)).trans h.1, (hb1.cell (World.block_lt_of_cell? W _ h.2.1)).trans h.2.1, (hb1.cell (World.block_lt_of_cell? W _ h.2.2.1)).trans h.2.2.1, (hb1.cell (World.block_lt_of_cell? W _ h.2.2.2.1)).trans h.2.2.2.1, h.2.2.2.2.trans (hb1.mono h.2.2.2.2.size)⟩

theorem take_eq_next {ts us : List Ty} {k : Nat} (h : ts.take k = us.take k) (h1 : k < ts.length) (h2 : k < us.length) (he : ts[k].kind = us[k].kind ∧ ts[k].args = us[k].args) : ts.take (k + 1) = us.take (k + 1) := by
  rw [List.take_add_one, List.take_add_one, h, List.getElem?_eq_getElem h1, List.getElem?_eq_getElem h2, Ty.ext he.1 he.2]
theorem ne_of_at {ts us : List Ty} {k : Nat} (h1 : k < ts.length) (h2 : k < us.length) (hn : ¬ (ts[k].kind = us[k].kind ∧ ts[k].args = us[k].args)) : ts ≠ us := by
  intro e; subst e; exact hn ⟨rfl, rfl⟩

set_option maxRecDepth 100000 in
set_option maxHeartbeats 1000000 in
theorem eqS_any {w0 : World} {C C' : Nat → Prop} {ts : List Ty} {v : Value} (h : TS w0 C ts v) : ∀ (w : World) (us : List Ty) (u : Value), Stays C w0 w → TS w C' us u →
    Calls Tryd.prog 38 #[v, u] w (BoolRet (fun b => b = true ↔ ts = us) w) := by
  induction h with
  | nil a c =>
    intro w us u hst hu
    obtain ⟨p, d, rfl⟩ := hu.form
    have hlen := hu.len
    clear hu
    go_enter Tryd.func38, Tryd.ntmps38
    by_cases hz : us.length = 0
    · obtain rfl := List.eq_nil_of_length_eq_zero hz
      simp only [List.length_nil]
      go_wp2_with fail
      go_loop [5] (fun i => i = .int .i64 0) (fun _ => 0)
      case atStart => exact rfl
      case round =>
        obtain rfl := hrel
        go_wp2_with fail
        go_ret
        exact ⟨true, by simp, rfl, Below.refl _ _⟩
    · have hne : ¬ ([] = us) := fun e => hz (by rw [← e]; rfl)
      have HN := Lib.hid hne
      clear hne
      go_wp2_with fail
      go_ret
      exact ⟨false, by simpa using HN.out, rfl, Below.refl _ _⟩
  | @cons ts b o c S h1 hc hm hC hb hk hs hr ih =>
    intro w us u hst hu
    have HIH := Lib.hid ih
    have HST := Lib.hid hst
    have HK := Lib.hid (fun j x (e : ts[j]? = some x) (w' : World) (hw : Stays C w0 w') => (World.cell?_of_block (w := w0) (a := ⟨b, o + j * 2, none⟩) (hw.2 b hC hb)).trans (hk j x e))
    have HS := Lib.hid (fun j x (e : ts[j]? = some x) (w' : World) (hw : Stays C w0 w') => (World.cell?_of_block (w := w0) (a := ⟨b, o + j * 2 + 1, none⟩) (hw.2 b hC hb)).trans (hs j x e))
    have HF := Lib.hid (fun j x (e : ts[j]? = some x) => (hr j x e).form)
    clear hk hs hr ih hst hC hb
    by_cases hlen : ts.length = us.length
    · cases hu with
      | nil a d =>
        have h0 : ts.length = 0 := hlen
        omega
      | @cons us b2 o2 d S2 h12 hc2 hm2 hC2 hb2 hk2 hs2 hr2 =>
        have HT2 := Lib.hid (fun (w' : World) (hw : Below w.heap.size w w') => TS.keep (.cons S2 h12 hc2 hm2 hC2 hb2 hk2 hs2 hr2) hw)
        have HK2 := Lib.hid hk2
        have HS2 := Lib.hid hs2
        have HR2 := Lib.hid hr2
        clear hk2 hs2 hr2 hC2
        have HL := Lib.hid hlen
        go_enter Tryd.func38, Tryd.ntmps38
        rw [← hlen]
        clear hlen
        go_wp2_with fail
        go_loopw [5] (fun i wr => ∃ (k : Nat), k ≤ ts.length ∧ i = .int .i64 k ∧ ts.take k = us.take k ∧ Below w.heap.size w wr) (fun i _ => ts.length - (intOf i).toNat)
        case atStart => exact ⟨0, Nat.zero_le _, rfl, by simp, Below.refl _ _⟩
        case round =>
          obtain ⟨k, hk, rfl, htk, hbr⟩ := hrel
          have HTK := Lib.hid htk
          have HB := Lib.hid hbr
          have HSR := Lib.hid (HST.out.trans (Stays.of_below (C := C) hbr))
          clear htk
          by_cases hlk : k < ts.length
          · have hlk2 : k < us.length := by rw [← HL.out]; exact hlk
            have e := List.getElem?_eq_getElem hlk
            have e2 := List.getElem?_eq_getElem hlk2
            have c1 := HK.out k _ e wr HSR.out
            have c2 := HS.out k _ e wr HSR.out
            have c3 := (hbr.cell (p := ⟨b2, o2 + k * 2, none⟩) hb2).trans (HK2.out k _ e2)
            have c4 := (hbr.cell (p := ⟨b2, o2 + k * 2 + 1, none⟩) hb2).trans (HS2.out k _ e2)
            obtain ⟨p, q, hf⟩ := HF.out k _ e
            obtain ⟨p2, q2, hf2⟩ := (HR2.out k _ e2).form
            have HC := Lib.hid (fun (W : World) (hW : Below w.heap.size w W) => eqT_of ts[k].kind us[k].kind p p2 _ q _ q2 (ts[k].args = us[k].args) W (fun w' hw' => by
              have hw2 := hW.trans (hw'.mono hW.size)
              have hh := HIH.out k _ e w' _ _ (HST.out.trans (Stays.of_below hw2)) ((HR2.out k _ e2).keep hw2)
              rw [hf, hf2] at hh
              exact hh))
            rw [hf] at c2
            rw [hf2] at c4
            have i0 : (0 : Int) ≤ (k : Int) := Int.natCast_nonneg _
            have i1 : (k : Int) < (ts.length : Int) := by omega
            clear e e2 hf hf2
            go_wp2_with fail
            go_region_held3 (fun w' => w'.cell? ⟨b, o + k * 2, none⟩ = some (.int .i64 ts[k].kind) ∧ w'.cell? ⟨b, o + k * 2 + 1, none⟩ = some (.slice p ts[k].args.length q) ∧ w'.cell? ⟨b2, o2 + k * 2, none⟩ = some (.int .i64 us[k].kind) ∧ w'.cell? ⟨b2, o2 + k * 2 + 1, none⟩ = some (.slice p2 us[k].args.length q2) ∧ Below w.heap.size w w')
              (first
                | (go_keep; done)
                | exact ⟨by simp [*], by simp [*], by simp [*], by simp [*], hbr.drew⟩
                | exact keep4 hb1 (by assumption))
              (first | (go_at_call 22; refine (HC.out _ hbr.drew).mono ?_; rintro e w1 ⟨r, hr, rfl, hb1⟩))
            rename_i hH
            have HB1 := Lib.hid hH.2.2.2.2
            have HR := Lib.hid hr
            clear hH hb1 c1 c2 c3 c4 hr
            cases r with
            | true =>
              go_wp2_with fail
              go_roundw
              case rel => exact ⟨k + 1, by omega, by go_num, take_eq_next HTK.out hlk hlk2 (HR.out.1 rfl), HB1.out⟩
              case measure => simp [intOf]; omega
            | false =>
              go_wp2_with fail
              go_ret
              exact ⟨false, by simpa using ne_of_at hlk hlk2 (fun e => by simpa using HR.out.2 e), rfl, HB1.out⟩
          · obtain rfl : k = ts.length := by omega
            have htk : ts = us := by
              have := HTK.out
              rw [List.take_length, HL.out, List.take_length] at this
              exact this
            have HE := Lib.hid htk
            clear htk
            go_wp2_with fail
            go_ret
            exact ⟨true, by simpa using HE.out, rfl, HB.out⟩
    · have hne : ¬ (ts = us) := fun e => hlen (by rw [← e])
      obtain ⟨p, d, rfl⟩ := hu.form
      have hlen2 := hu.len
      have HN := Lib.hid hne
      clear hne hu
      go_enter Tryd.func38, Tryd.ntmps38
      go_wp2_with fail
      go_ret
      exact ⟨false, by simpa using HN.out, rfl, Below.refl _ _⟩
/-- THE LAWS' eqType, AT ANY TWO TYPES. -/
theorem eqT_any {C C' : Nat → Prop} {t u : Ty} {v x : Value} {w : World} (h : TT w C t v) (h2 : TT w C' u x) :
    Calls Tryd.prog 22 #[v, x] w (BoolRet (fun b => b = true ↔ t = u) w) := by
  obtain ⟨s, rfl, h⟩ := h
  obtain ⟨p, c, rfl⟩ := h.form
  obtain ⟨s2, rfl, h2⟩ := h2
  obtain ⟨p2, c2, rfl⟩ := h2.form
  refine (eqT_of t.kind u.kind p p2 _ c _ c2 (t.args = u.args) w (fun w' hb => eqS_any h w' _ _ (.of_below hb) (h2.keep hb))).mono ?_
  rintro e w' ⟨b, hb, he, hw⟩
  exact ⟨b, hb.trans ⟨fun h => Ty.ext h.1 h.2, fun h => by rw [h]; exact ⟨rfl, rfl⟩⟩, he, hw⟩
#print axioms eqT_any
end Go.Proofs.YtdofjnjiandcbaaDoor
/- OwnT: Types in memory that the call made itself: a row of types of its own, a tree of such rows whose blocks are apart. -/
namespace Go.Proofs.YtdofjnjiandcbaaDoor
open Go Go.RowKit

theorem infoTy : (Tryd.prog.info? 32).map (fun i => (i.zero, i.size, i.bytes)) = some (some (.agg #[.int .i64 0, .slice none 0 0]), 2, 32) := by kernel_rfl

/-- Block b is a row of c types of the call's own, of which the first n hold the kinds K and the slices S. -/
def Row (w : World) (b n c : Nat) (K : Nat → Int) (S : Nat → Value) : Prop :=
  ∃ cur : Array Value, w.heap[b]? = some (.cells cur 32 (0, 0)) ∧ cur.size = c * 2 ∧ n ≤ c ∧ ∀ j, j < n → cur[j * 2]? = some (.int .i64 (K j)) ∧ cur[j * 2 + 1]? = some (S j)

namespace Row
variable {w : World} {b n c : Nat} {K : Nat → Int} {S : Nat → Value}
theorem kind (h : Row w b n c K S) {j : Nat} (hj : j < n) : w.cell? ⟨b, j * 2, none⟩ = some (.int .i64 (K j)) := by
  obtain ⟨cur, hb, _, _, hc⟩ := h
  simp [World.cell?, hb, (hc j hj).1]
theorem args (h : Row w b n c K S) {j : Nat} (hj : j < n) : w.cell? ⟨b, j * 2 + 1, none⟩ = some (S j) := by
  obtain ⟨cur, hb, _, _, hc⟩ := h
  simp [World.cell?, hb, (hc j hj).2]
theorem frozen (h : Row w b n c K S) (i : Nat) : w.frozen? ⟨b, i, none⟩ = false := by
  obtain ⟨cur, hb, _, _, _⟩ := h
  simp [World.frozen?, hb]
theorem lt (h : Row w b n c K S) : b < w.heap.size := by
  obtain ⟨cur, hb, _, _, _⟩ := h
  exact (Array.getElem?_eq_some_iff.1 hb).1
theorem of_block {w' : World} (h : Row w b n c K S) (e : w'.heap[b]? = w.heap[b]?) : Row w' b n c K S := by
  obtain ⟨cur, hb, h1, h2, h3⟩ := h
  exact ⟨cur, e.trans hb, h1, h2, h3⟩
theorem below {w' : World} (h : Row w b n c K S) (hb : Below w.heap.size w w') : Row w' b n c K S := h.of_block (hb.block b h.lt)
theorem congr {K' : Nat → Int} {S' : Nat → Value} (h : Row w b n c K S) (e1 : ∀ j, j < n → K j = K' j) (e2 : ∀ j, j < n → S j = S' j) : Row w b n c K' S' := by
  obtain ⟨cur, hb, h1, h2, h3⟩ := h
  exact ⟨cur, hb, h1, h2, fun j hj => by rw [← e1 j hj, ← e2 j hj]; exact h3 j hj⟩
theorem setKind (h : Row w b n c K S) (k : Nat) (q : Int) : Row (w.setCell ⟨b, k * 2, none⟩ (.int .i64 q)) b n c (fun j => if j = k then q else K j) S := by
  obtain ⟨cur, hb, h1, h2, h3⟩ := h
  refine ⟨cur.setIfInBounds (k * 2) (.int .i64 q), ?_, by simpa using h1, h2, fun j hj => ?_⟩
  · simp [World.setCell, Array.getElem?_modify, hb]
  · rw [Array.getElem?_setIfInBounds, Array.getElem?_setIfInBounds]
    obtain ⟨e1, e2⟩ := h3 j hj
    constructor
    · by_cases e : j = k
      · subst e
        have : j * 2 < cur.size := by omega
        simp [this]
      · dsimp only; rw [if_neg (by omega), if_neg e]; exact e1
    · rw [if_neg (by omega)]; exact e2
theorem setArgs (h : Row w b n c K S) (k : Nat) (s : Value) : Row (w.setCell ⟨b, k * 2 + 1, none⟩ s) b n c K (fun j => if j = k then s else S j) := by
  obtain ⟨cur, hb, h1, h2, h3⟩ := h
  refine ⟨cur.setIfInBounds (k * 2 + 1) s, ?_, by simpa using h1, h2, fun j hj => ?_⟩
  · simp [World.setCell, Array.getElem?_modify, hb]
  · rw [Array.getElem?_setIfInBounds, Array.getElem?_setIfInBounds]
    obtain ⟨e1, e2⟩ := h3 j hj
    constructor
    · rw [if_neg (by omega)]; exact e1
    · by_cases e : j = k
      · subst e
        have : j * 2 + 1 < cur.size := by omega
        simp [this]
      · dsimp only; rw [if_neg (by omega), if_neg e]; exact e2
theorem of_owns {base g cap : Nat} {xs : List Value} (h : w.ownsRow base 32 2 (.slice (some ⟨g, 0, none⟩) n cap) n xs) (hx : ∀ j, j < n → xs[j * 2]? = some (.int .i64 (K j)) ∧ xs[j * 2 + 1]? = some (S j)) :
    Row w g n cap K S ∧ base ≤ g ∧ cap ≤ maxLen := by
  obtain ⟨_, h0 | ⟨g', cap', cur, hv, hg, hblk, h1, h2, h3, h4⟩⟩ := h
  · exact absurd h0.1 (by simp)
  · simp only [Value.slice.injEq, Option.some.injEq, Addr.mk.injEq, true_and, and_true] at hv
    obtain ⟨rfl, rfl⟩ := hv
    refine ⟨⟨cur, hblk, h3, h1, fun j hj => ?_⟩, hg, h2⟩
    obtain ⟨e1, e2⟩ := hx j hj
    rw [← h4, List.getElem?_take, if_pos (by omega), Array.getElem?_toList] at e1 e2
    exact ⟨e1, e2⟩
theorem to_owns (h : Row w b n c K S) (base : Nat) (hb : base ≤ b) (hc : c ≤ maxLen) :
    w.ownsRow base 32 2 (.slice (some ⟨b, 0, none⟩) n c) n ((List.range n).flatMap fun j => [.int .i64 (K j), S j]) := by
  obtain ⟨cur, hblk, h1, h2, h3⟩ := h
  have hl : ∀ m, ((List.range m).flatMap fun j => [Value.int .i64 (K j), S j]).length = m * 2 := by
    intro m
    induction m with
    | zero => rfl
    | succ m ih => rw [List.range_succ, List.flatMap_append, List.length_append, ih]; simp; omega
  refine ⟨hl n, Or.inr ⟨b, c, cur, rfl, hb, hblk, h2, hc, h1, ?_⟩⟩
  have key : ∀ m, m ≤ n → cur.toList.take (m * 2) = (List.range m).flatMap fun j => [Value.int .i64 (K j), S j] := by
    intro m
    induction m with
    | zero => intro _; simp
    | succ m ih =>
      intro hm
      obtain ⟨e1, e2⟩ := h3 m (by omega)
      rw [List.range_succ, List.flatMap_append, ← ih (by omega), show (m + 1) * 2 = m * 2 + 1 + 1 by omega, List.take_add_one, List.take_add_one, Array.getElem?_toList, Array.getElem?_toList, e1, e2]
      simp
  exact key n (Nat.le_refl _)
end Row

/-- A tree of rows of the call's own; F: the blocks, which are apart. -/
inductive OS (w : World) : List Ty → Value → (Nat → Prop) → Prop
  | none (F : Nat → Prop) : OS w [] (.slice none 0 0) F
  | row {ts : List Ty} {b c : Nat} {F : Nat → Prop} (K : Nat → Int) (S : Nat → Value) (G : Nat → Nat → Prop) (hrow : Row w b ts.length c K S) (hm : c ≤ maxLen) (hF : F b)
      (hk : ∀ j x, ts[j]? = some x → K j = x.kind) (hr : ∀ j x, ts[j]? = some x → OS w x.args (S j) (G j))
      (hG : ∀ j x, j < ts.length → G j x → F x ∧ x ≠ b) (hd : ∀ i j x, i < ts.length → j < ts.length → i ≠ j → G i x → G j x → False) : OS w ts (.slice (some ⟨b, 0, Option.none⟩) ts.length c) F

theorem OS.stays {w w' : World} {F : Nat → Prop} {ts : List Ty} {v : Value} (h : OS w ts v F) : Stays F w w' → OS w' ts v F := by
  induction h with
  | none F => intro _; exact .none F
  | row K S G hrow hm hF hk hr hG hd ih =>
    intro hs
    refine .row K S G (hrow.of_block (hs.2 _ hF hrow.lt)) hm hF hk (fun j x hj => ih j x hj ⟨hs.1, fun b hb hl => hs.2 b (hG j b (List.getElem?_eq_some_iff.1 hj).1 hb).1 hl⟩) hG hd
theorem OS.keep {w w' : World} {F : Nat → Prop} {ts : List Ty} {v : Value} (h : OS w ts v F) (hb : Below w.heap.size w w') : OS w' ts v F := h.stays (.of_below hb)
theorem OS.mono {w : World} {F F' : Nat → Prop} {ts : List Ty} {v : Value} (h : OS w ts v F) (hF' : ∀ b, F b → F' b) : OS w ts v F' := by
  cases h with
  | none F => exact .none F'
  | row K S G hrow hm hF hk hr hG hd => exact .row K S G hrow hm (hF' _ hF) hk hr (fun j x hj hx => ⟨hF' _ (hG j x hj hx).1, (hG j x hj hx).2⟩) hd
theorem OS.ts {w : World} {F : Nat → Prop} {ts : List Ty} {v : Value} (h : OS w ts v F) : TS w F ts v := by
  induction h with
  | none F => exact .nil _ _
  | @row ts b c F K S G hrow hm hF hk hr hG hd ih =>
    cases ts with
    | nil => exact .nil _ _
    | cons x r =>
      refine .cons S (by simp) hrow.choose_spec.2.2.1 (by unfold maxLen at hm; omega) hF hrow.lt (fun j y hj => ?_) (fun j y hj => ?_) (fun j y hj => ?_)
      · have hlt := (List.getElem?_eq_some_iff.1 hj).1
        rw [Nat.zero_add, hrow.kind hlt, hk j y hj]
      · have hlt := (List.getElem?_eq_some_iff.1 hj).1
        rw [Nat.zero_add, hrow.args hlt]
      · have hlt := (List.getElem?_eq_some_iff.1 hj).1
        exact (ih j y hj).mono (fun b hb _ => (hG j b hlt hb).1)
/-- A struct value that is a type whose rows are the call's own. -/
def OT (w : World) (t : Ty) (v : Value) (F : Nat → Prop) : Prop := ∃ s, v = .agg #[.int .i64 t.kind, s] ∧ OS w t.args s F
theorem OT.tt {w : World} {F : Nat → Prop} {t : Ty} {v : Value} (h : OT w t v F) : TT w F t v := by
  obtain ⟨s, hv, h⟩ := h
  exact ⟨s, hv, h.ts⟩
theorem OT.keep {w w' : World} {F : Nat → Prop} {t : Ty} {v : Value} (h : OT w t v F) (hb : Below w.heap.size w w') : OT w' t v F := by
  obtain ⟨s, hv, h⟩ := h
  exact ⟨s, hv, h.keep hb⟩
theorem OS.form {w : World} {F : Nat → Prop} {ts : List Ty} {v : Value} (h : OS w ts v F) : ∃ a c, v = .slice a ts.length c := h.ts.form

/-- A row that is being filled, place by place: k of ts are there. -/
def Fill (w : World) (b n c : Nat) (ts : List Ty) (k : Nat) : Prop :=
  ∃ (K : Nat → Int) (S : Nat → Value) (G : Nat → Nat → Prop), Row w b n c K S ∧ (∀ j x, j < k → ts[j]? = some x → K j = x.kind ∧ OS w x.args (S j) (G j)) ∧
    (∀ j x, j < k → G j x → b < x ∧ x < w.heap.size) ∧ (∀ i j x, i < k → j < k → i ≠ j → G i x → G j x → False)
theorem Fill.lt {w : World} {b n c k : Nat} {ts : List Ty} (h : Fill w b n c ts k) : b < w.heap.size := by
  obtain ⟨K, S, G, h, _⟩ := h
  exact h.lt
theorem Fill.start {w : World} {b n c : Nat} {K : Nat → Int} {S : Nat → Value} {ts : List Ty} (h : Row w b n c K S) : Fill w b n c ts 0 :=
  ⟨K, S, fun _ _ => False, h, fun j x hj => by omega, fun j x hj => by omega, fun i j x hi => by omega⟩
theorem setCell_stays (w : World) (b : Nat) (i : Nat) (v : Value) (F : Nat → Prop) (h : ¬ F b) : Stays F w (w.setCell ⟨b, i, none⟩ v) :=
  ⟨((Below.refl b w).setCell (p := ⟨b, i, none⟩) (Nat.le_refl _) v).size, fun k hk _ => Below.heap_setCell _ _ _ _ (fun e => h (by rw [← (show k = b from e)]; exact hk))⟩
/-- The k-th place is filled with a type that was made behind. -/
theorem Fill.next {w w1 : World} {b n c k : Nat} {ts : List Ty} (h : Fill w b n c ts k) (hb : Below w.heap.size w w1) {x : Ty} (hx : ts[k]? = some x) {s : Value}
    (ho : OS w1 x.args s (fun g => w.heap.size ≤ g ∧ g < w1.heap.size)) (hkn : k < n) :
    Fill ((w1.setCell ⟨b, k * 2, none⟩ (.int .i64 x.kind)).setCell ⟨b, k * 2 + 1, none⟩ s) b n c ts (k + 1) := by
  obtain ⟨K, S, G, hrow, ht, hg, hd⟩ := h
  have hlt := hrow.lt
  have e0 : ((w1.setCell ⟨b, k * 2, none⟩ (.int .i64 x.kind)).setCell ⟨b, k * 2 + 1, none⟩ s).heap.size = w1.heap.size := by
    simp [World.setCell]
  have stay : ∀ F : Nat → Prop, ¬ F b → Stays F w1 ((w1.setCell ⟨b, k * 2, none⟩ (.int .i64 x.kind)).setCell ⟨b, k * 2 + 1, none⟩ s) := fun F hF => (setCell_stays _ _ _ _ F hF).trans (setCell_stays _ _ _ _ F hF)
  refine ⟨fun j => if j = k then x.kind else K j, fun j => if j = k then s else S j, fun j => if j = k then (fun g => w.heap.size ≤ g ∧ g < w1.heap.size) else G j, ((hrow.below hb).setKind k _).setArgs k s, fun j y hj hy => ?_, fun j y hj hy => ?_, fun i j y hi hj hij h1 h2 => ?_⟩
  · by_cases e : j = k
    · subst e
      rw [hx] at hy; cases hy
      simp only [if_true, true_and]
      exact ho.stays (stay _ (by simp; omega))
    · simp only [if_neg e]
      obtain ⟨e1, e2⟩ := ht j y (by omega) hy
      exact ⟨e1, (e2.keep hb).stays (stay _ (fun hh => by have := hg j b (by omega) hh; omega))⟩
  · rw [e0]
    by_cases e : j = k
    · subst e
      simp only [if_true] at hy
      have := hb.size
      omega
    · simp only [if_neg e] at hy
      have := hg j y (by omega) hy
      have := hb.size
      omega
  · dsimp only at h1 h2
    by_cases ei : i = k
    · subst ei
      simp only [if_true] at h1
      rw [if_neg (by omega)] at h2
      have := hg j y (by omega) h2
      omega
    · rw [if_neg ei] at h1
      by_cases ej : j = k
      · subst ej
        simp only [if_true] at h2
        have := hg i y (by omega) h1
        omega
      · rw [if_neg ej] at h2
        exact hd i j y (by omega) (by omega) hij h1 h2
theorem Fill.frz {w w1 : World} {b n c k : Nat} {ts : List Ty} (h : Fill w b n c ts k) (hb : Below w.heap.size w w1) (i : Nat) : w1.frozen? ⟨b, i, none⟩ = false := by
  obtain ⟨K, S, G, hrow, _⟩ := h
  exact (hrow.below hb).frozen i
theorem Fill.next2 {w w1 : World} {b n c k : Nat} {ts : List Ty} (h : Fill w b n c ts k) (hb : Below w.heap.size w w1) {x : Ty} (hx : ts[k]? = some x) {s : Value}
    (ho : OS w1 x.args s (fun g => w.heap.size ≤ g ∧ g < w1.heap.size)) (hkn : k < n) :
    ((∃ q, w1.cell? ⟨b, k * 2, none⟩ = some (.int .i64 q)) ∧ (∃ q, w1.cell? ⟨b, k * 2 + 1, none⟩ = some q)) ∧
    Fill ((w1.setCell ⟨b, k * 2, none⟩ (.int .i64 x.kind)).setCell ⟨b, k * 2 + 1, none⟩ s) b n c ts (k + 1) := by
  refine ⟨?_, h.next hb hx ho hkn⟩
  obtain ⟨K, S, G, hrow, _⟩ := h
  exact ⟨⟨_, (hrow.below hb).kind hkn⟩, ⟨_, (hrow.below hb).args hkn⟩⟩
theorem Fill.full {w : World} {b c : Nat} {ts : List Ty} (h : Fill w b ts.length c ts ts.length) (hm : c ≤ maxLen) : OS w ts (.slice (some ⟨b, 0, none⟩) ts.length c) (fun g => b ≤ g ∧ g < w.heap.size) := by
  obtain ⟨K, S, G, hrow, ht, hg, hd⟩ := h
  refine .row K S G hrow hm ⟨Nat.le_refl _, hrow.lt⟩ (fun j x hj => (ht j x (List.getElem?_eq_some_iff.1 hj).1 hj).1) (fun j x hj => (ht j x (List.getElem?_eq_some_iff.1 hj).1 hj).2) (fun j x hj hx => ?_) hd
  have := hg j x hj hx
  exact ⟨⟨by omega, by omega⟩, by omega⟩
end Go.Proofs.YtdofjnjiandcbaaDoor
/- TyCopy: The contract of the laws' toTypeS and toType: the same type, in rows of the call's own. -/
namespace Go.Proofs.YtdofjnjiandcbaaDoor
open Go Go.RowKit

/-- A new type: the same as t, in blocks that were not there. -/
def NewT (t : Ty) (w : World) (e : Ending) (w' : World) : Prop := ∃ v, e = .returned v ∧ OT w' t v (fun g => w.heap.size ≤ g ∧ g < w'.heap.size) ∧ Below w.heap.size w w'
def NewTS (ts : List Ty) (w : World) (e : Ending) (w' : World) : Prop := ∃ v, e = .returned v ∧ OS w' ts v (fun g => w.heap.size ≤ g ∧ g < w'.heap.size) ∧ Below w.heap.size w w'

theorem blk_new (w : World) (o : Obj) : (w.alloc o).heap[w.heap.size]? = some o := by
  show (w.heap.push o)[w.heap.size]? = _
  simp
theorem results_cell1 {fn : Func} {p : Tmp} {ty : TypeId} (h : fn.results = #[.cell p ty]) (tmps : Array Value) (P : Program) (w : World) :
    (results fn tmps).run P w = ((asAddr (tmps.getD p undef)).run P w).andThen fun a w₁ => (loadVar ty a).run P w₁ := by
  simp only [results, h]
  simp [Sem.run_bind, Result.andThen]

theorem blocks3 (w w1 : World) (A B C : Array Value) (tA tB tC : TypeId) (h : Below (((w.alloc (.cells A tA)).alloc (.cells B tB)).alloc (.cells C tC)).heap.size (((w.alloc (.cells A tA)).alloc (.cells B tB)).alloc (.cells C tC)) w1) :
    w1.heap[w.heap.size + 1]? = some (.cells B tB (0, 0)) ∧ w1.heap[w.heap.size + 1 + 1]? = some (.cells C tC (0, 0)) := by
  have s1 : (w.alloc (.cells A tA)).heap.size = w.heap.size + 1 := by simp
  have s2 : ((w.alloc (.cells A tA)).alloc (.cells B tB)).heap.size = w.heap.size + 1 + 1 := by simp
  constructor
  · rw [h.block _ (by simp), Below.heap_alloc _ _ _ (by simp), ← s1]
    exact blk_new _ _
  · rw [h.block _ (by simp), ← s2]
    exact blk_new _ _
theorem cell_of_blk {w : World} {g : Nat} {cs : Array Value} {t : TypeId} {fr : Nat × Nat} (h : w.heap[g]? = some (.cells cs t fr)) (i : Nat) : w.cell? ⟨g, i, none⟩ = cs[i]? := by simp [World.cell?, h]
theorem unfrozen_of_blk {w : World} {g : Nat} {cs : Array Value} {t : TypeId} (h : w.heap[g]? = some (.cells cs t (0, 0))) (i : Nat) : w.frozen? ⟨g, i, none⟩ = false := by simp [World.frozen?, h]

theorem newT_done {k : Int} {ts : List Ty} {w W w1 : World} {n q : Nat} {p : Option Addr} {i1 i2 i3 : Nat} {v1 v2 v3 : Value} (ho : OS w1 ts (.slice p n q) (fun g => W.heap.size ≤ g ∧ g < w1.heap.size)) (hb : Below w.heap.size w w1)
    (hW : w.heap.size + 1 + 1 < W.heap.size) :
    NewT (.mk k ts) w (.returned (.agg #[.int .i64 k, .slice p n q])) (((w1.setCell ⟨w.heap.size + 1 + 1, i1, none⟩ v1).setCell ⟨w.heap.size + 1, i2, none⟩ v2).setCell ⟨w.heap.size + 1, i3, none⟩ v3) := by
  have hs : (((w1.setCell ⟨w.heap.size + 1 + 1, i1, none⟩ v1).setCell ⟨w.heap.size + 1, i2, none⟩ v2).setCell ⟨w.heap.size + 1, i3, none⟩ v3).heap.size = w1.heap.size := by simp [World.setCell]
  refine ⟨_, rfl, ⟨_, rfl, OS.mono (ho.stays (((setCell_stays _ _ _ _ _ (by omega)).trans (setCell_stays _ _ _ _ _ (by omega))).trans (setCell_stays _ _ _ _ _ (by omega)))) (fun b hb => ?_)⟩, ((hb.setCell (p := ⟨w.heap.size + 1 + 1, i1, none⟩) (by show w.heap.size ≤ w.heap.size + 1 + 1; omega) _).setCell (p := ⟨w.heap.size + 1, i2, none⟩) (by show w.heap.size ≤ w.heap.size + 1; omega) _).setCell (p := ⟨w.heap.size + 1, i3, none⟩) (by show w.heap.size ≤ w.heap.size + 1; omega) _⟩
  rw [hs]
  omega

set_option maxRecDepth 100000 in
set_option maxHeartbeats 1000000 in
theorem toT_of (k : Int) (p : Option Addr) (l c : Nat) (ts : List Ty) (w : World)
    (h : ∀ w', Below w.heap.size w w' → Calls Tryd.prog 31 #[.slice p l c] w' (NewTS ts w')) :
    Calls Tryd.prog 16 #[.agg #[.int .i64 k, .slice p l c]] w (NewT (.mk k ts) w) := by
  have HH := Lib.hid h
  have HB := Lib.hid ((((Below.refl w.heap.size w).alloc (Nat.le_refl _) (Obj.cells #[.int .i64 k, .slice p l c] 24)).alloc (by simp) (Obj.cells #[.int .i64 0, .slice none 0 0] 32)).alloc (by simp; omega) (Obj.cells #[.int .i64 k, .slice none 0 0] 32))
  clear h
  go_enter Tryd.func16, Tryd.ntmps16
  go_wp2_with fail
  refine (HH.out _ HB.out).mono ?_
  rintro e w1 ⟨s, rfl, ho, hb1⟩
  obtain ⟨b1, b2⟩ := blocks3 _ _ _ _ _ _ _ _ hb1
  have c10 := cell_of_blk b1 0
  have c11 := cell_of_blk b1 1
  have c20 := cell_of_blk b2 0
  have c21 := cell_of_blk b2 1
  have z1 := unfrozen_of_blk b1
  have z2 := unfrozen_of_blk b2
  simp only [List.getElem?_toArray, List.getElem?_cons_zero, List.getElem?_cons_succ] at c10 c11 c20 c21
  obtain ⟨p', q', hf⟩ := ho.form
  subst hf
  have HO := Lib.hid ho
  have HB1 := Lib.hid (HB.out.trans (hb1.mono HB.out.size))
  clear ho hb1 b1 b2
  go_wp2_with fail
  refine bodyPost_ret (v := .agg #[.int .i64 k, .slice p' ts.length q']) ?_ rfl ?_
  · rw [results_cell1 rfl]
    go_simp
  · exact newT_done HO.out HB1.out (by simp)

/-- The zero type, as often as is asked. -/
theorem zeros_at (n j : Nat) (h : j < n) : (madeCells (#[Value.int .i64 0, Value.slice none 0 0]) (n * 2)).toList[j * 2]? = some (.int .i64 0) ∧ (madeCells (#[Value.int .i64 0, Value.slice none 0 0]) (n * 2)).toList[j * 2 + 1]? = some (.slice none 0 0) := by
  have h1 : j * 2 < n * 2 := by omega
  have h2 : j * 2 + 1 < n * 2 := by omega
  have e2 : (j * 2 + 1) % 2 = 1 := by omega
  constructor
  · simp [madeCells, h1]
  · simp [madeCells, h2, e2]

set_option maxRecDepth 100000 in
set_option maxHeartbeats 1000000 in
theorem toS_any {w0 : World} {C : Nat → Prop} {ts : List Ty} {v : Value} (h : TS w0 C ts v) : ∀ (w : World), Stays C w0 w → nodesS ts ≤ 1048576 →
    Calls Tryd.prog 31 #[v] w (NewTS ts w) := by
  obtain ⟨i0, hi, hz0, hz1, hz2⟩ := info_parts infoTy
  induction h with
  | nil a c =>
    intro w hst hn
    go_enter Tryd.func31, Tryd.ntmps31
    go_wp2_with (at_make; refine wpList_make_full _ rfl _ _ 30 rfl w.heap.size 32 i0 (.agg #[.int .i64 0, .slice none 0 0]) 2 Tryd.underlying30 hi hz0 hz1 .i64 .i64 _ _ 0 rfl rfl rfl rfl ?c1 ?c2 ?c3 ?_)
    case c1 => omega
    case c2 => unfold maxLen; omega
    case c3 => exact Nat.le_refl _
    intro w1 hown0 hg
    have hb1 : Below w.heap.size w w1 := (Below.refl _ _).grown hg (Nat.le_refl _) (fun k h => by cases h)
    have ho := (Row.of_owns (K := fun _ => 0) (S := fun _ => .slice none 0 0) hown0 (fun j hj => by omega)).1
    have HO := Lib.hid (Fill.start (ts := []) ho)
    clear hown0 hg ho
    go_wp2_with fail
    go_loopw [4] (fun i wr => i = .int .i64 0 ∧ wr = w1) (fun _ _ => 0)
    case atStart => exact ⟨rfl, rfl⟩
    case round =>
      obtain ⟨rfl, rfl⟩ := hrel
      go_wp2_with fail
      go_ret
      exact ⟨_, rfl, HO.out.full (by unfold maxLen; omega), hb1⟩
  | @cons ts b o c S h1 hc hm hC hb hk hs hr ih =>
    intro w hst hn
    have hlen := nodesS_ge ts
    have HIH := Lib.hid ih
    have HST := Lib.hid hst
    have HK := Lib.hid (fun j x (e : ts[j]? = some x) (w' : World) (hw : Stays C w0 w') => (World.cell?_of_block (w := w0) (a := ⟨b, o + j * 2, none⟩) (hw.2 b hC hb)).trans (hk j x e))
    have HS := Lib.hid (fun j x (e : ts[j]? = some x) (w' : World) (hw : Stays C w0 w') => (World.cell?_of_block (w := w0) (a := ⟨b, o + j * 2 + 1, none⟩) (hw.2 b hC hb)).trans (hs j x e))
    have HF := Lib.hid (fun j x (e : ts[j]? = some x) => (hr j x e).form)
    clear hk hs hr ih hst hC hb
    go_enter Tryd.func31, Tryd.ntmps31
    go_wp2_with (at_make; refine wpList_make_full _ rfl _ _ 30 rfl w.heap.size 32 i0 (.agg #[.int .i64 0, .slice none 0 0]) 2 Tryd.underlying30 hi hz0 hz1 .i64 .i64 _ _ ts.length rfl rfl rfl rfl ?c1 ?c2 ?c3 ?_)
    case c1 => rw [hz2]; omega
    case c2 => unfold maxLen; omega
    case c3 => exact Nat.le_refl _
    intro w1 hown0 hg
    have hb1 : Below w.heap.size w w1 := (Below.refl _ _).grown hg (Nat.le_refl _) (fun k h => by cases h)
    have ho := (Row.of_owns (K := fun _ => 0) (S := fun _ => .slice none 0 0) hown0 (fun j hj => zeros_at _ j hj)).1
    have HO := Lib.hid (Fill.start (ts := ts) ho)
    clear hown0 hg ho
    go_wp2_with fail
    go_loopw [4] (fun i wr => ∃ k : Nat, k ≤ ts.length ∧ i = .int .i64 k ∧ Fill wr w.heap.size ts.length ts.length ts k ∧ Below w.heap.size w wr) (fun i _ => ts.length - (intOf i).toNat)
    case atStart => exact ⟨0, Nat.zero_le _, rfl, HO.out, hb1⟩
    case round =>
      obtain ⟨k, hk, rfl, hfill, hbr⟩ := hrel
      have HFI := Lib.hid hfill
      have HB := Lib.hid hbr
      have HSR := Lib.hid (HST.out.trans (Stays.of_below (C := C) hbr))
      clear hb1 hfill hbr
      by_cases hlk : k < ts.length
      · have e := List.getElem?_eq_getElem hlk
        have c1 := HK.out k _ e wr HSR.out
        have c2 := HS.out k _ e wr HSR.out
        obtain ⟨p, q, hf⟩ := HF.out k _ e
        have hnk := nodesS_at ts k hlk
        have HC := Lib.hid (toT_of ts[k].kind p ts[k].args.length q ts[k].args wr (fun w' hw' => by
          have hh := HIH.out k _ e w' (HSR.out.trans (.of_below hw')) (by omega)
          rw [hf] at hh
          exact hh))
        rw [hf] at c2
        have HE := Lib.hid e
        clear e hf hnk
        go_wp2_with fail
        refine HC.out.mono ?_
        rintro e w2 ⟨v, rfl, ⟨s, rfl, hos⟩, hb2⟩
        obtain ⟨p2, q2, hf2⟩ := hos.form
        simp only [Ty.args_mk] at hos hf2
        subst hf2
        have hlt := Nat.lt_of_lt_of_le HFI.out.lt hb2.size
        obtain ⟨hrow, hgo⟩ := HFI.out.next2 hb2 HE.out hos hlk
        obtain ⟨⟨q3, x1⟩, ⟨q4, x2⟩⟩ := hrow
        have z1 := fun i => HFI.out.frz hb2 i
        have HN := Lib.hid hgo
        have HB2 := Lib.hid (((HB.out.trans (hb2.mono HB.out.size)).setCell (p := ⟨w.heap.size, k * 2, none⟩) (Nat.le_refl _) (.int .i64 ts[k].kind)).setCell (p := ⟨w.heap.size, k * 2 + 1, none⟩) (Nat.le_refl _) (.slice p2 ts[k].args.length q2))
        clear hgo hos hb2
        go_wp2_with fail
        go_roundw
        case rel => exact ⟨k + 1, by omega, by go_num, HN.out, HB2.out⟩
        case measure => simp [intOf]; omega
      · obtain rfl : k = ts.length := by omega
        go_wp2_with fail
        go_ret
        exact ⟨_, rfl, HFI.out.full (by unfold maxLen; omega), HB.out⟩
/-- THE LAWS' toType, AT EVERY TYPE. -/
theorem toT_any {C : Nat → Prop} {t : Ty} {v : Value} {w : World} (h : TT w C t v) (hn : nodesS t.args ≤ 1048576) : Calls Tryd.prog 16 #[v] w (NewT t w) := by
  obtain ⟨s, rfl, h⟩ := h
  obtain ⟨p, c, rfl⟩ := h.form
  have := toT_of t.kind p t.args.length c t.args w (fun w' hb => toS_any h w' (.of_below hb) hn)
  cases t
  exact this
#print axioms toT_any
end Go.Proofs.YtdofjnjiandcbaaDoor
/- TyInd: Induction over a type that lies in memory; facts on a parameter's box; the figures of a type. -/
namespace Go.Proofs.YtdofjnjiandcbaaDoor
open Go Go.RowKit

/-- INDUCTION OVER A TYPE IN MEMORY: each part at its place, in every world that keeps the blocks. -/
theorem TS.ind {w0 : World} {C : Nat → Prop} {motive : List Ty → Value → Prop}
    (step : ∀ (ts : List Ty) (p : Option Addr) (c : Nat), ts.length ≤ 9223372036854775807 →
      (∀ (j : Nat) (x : Ty), ts[j]? = some x → ∃ (b o : Nat) (p' : Option Addr) (c' : Nat), p = some ⟨b, o, none⟩ ∧
        (∀ w', Stays C w0 w' → w'.cell? ⟨b, o + j * 2, none⟩ = some (.int .i64 x.kind) ∧ w'.cell? ⟨b, o + j * 2 + 1, none⟩ = some (.slice p' x.args.length c')) ∧
        TS w0 C x.args (.slice p' x.args.length c') ∧ motive x.args (.slice p' x.args.length c')) → motive ts (.slice p ts.length c))
    {ts : List Ty} {v : Value} (h : TS w0 C ts v) : motive ts v := by
  induction h with
  | nil a c => exact step [] a c (by simp) (fun j x hj => by simp at hj)
  | @cons ts b o c S h1 hc hm hC hb hk hs hr ih =>
    refine step ts _ c (by omega) (fun j x hj => ?_)
    obtain ⟨p', c', hf⟩ := (hr j x hj).form
    refine ⟨b, o, p', c', rfl, fun w' hw => ⟨?_, ?_⟩, hf ▸ hr j x hj, hf ▸ ih j x hj⟩
    · exact (World.cell?_of_block (w := w0) (a := ⟨b, o + j * 2, none⟩) (hw.2 b hC hb)).trans (hk j x hj)
    · rw [← hf]; exact (World.cell?_of_block (w := w0) (a := ⟨b, o + j * 2 + 1, none⟩) (hw.2 b hC hb)).trans (hs j x hj)

/-- A part of a slice of types, in every world that keeps the blocks. -/
theorem TS.at {w0 : World} {C : Nat → Prop} {ts : List Ty} {p : Option Addr} {n c : Nat} (h : TS w0 C ts (.slice p n c)) : ∀ (j : Nat) (x : Ty), ts[j]? = some x → ∃ (b o : Nat) (p' : Option Addr) (c' : Nat), p = some ⟨b, o, none⟩ ∧
    (∀ w', Stays C w0 w' → w'.cell? ⟨b, o + j * 2, none⟩ = some (.int .i64 x.kind) ∧ w'.cell? ⟨b, o + j * 2 + 1, none⟩ = some (.slice p' x.args.length c')) ∧ TS w0 C x.args (.slice p' x.args.length c') := by
  have key := TS.ind (motive := fun ts v => ∀ (p : Option Addr) (n c : Nat), v = .slice p n c → ∀ (j : Nat) (x : Ty), ts[j]? = some x → ∃ (b o : Nat) (p' : Option Addr) (c' : Nat), p = some ⟨b, o, none⟩ ∧
    (∀ w', Stays C w0 w' → w'.cell? ⟨b, o + j * 2, none⟩ = some (.int .i64 x.kind) ∧ w'.cell? ⟨b, o + j * 2 + 1, none⟩ = some (.slice p' x.args.length c')) ∧ TS w0 C x.args (.slice p' x.args.length c')) (fun ts p c _ H p2 n2 c2 e j x hj => by
      obtain ⟨b, o, p', c', hp, hc, hT, _⟩ := H j x hj
      simp only [Value.slice.injEq] at e
      exact ⟨b, o, p', c', e.1 ▸ hp, hc, hT⟩) h
  exact key p n c rfl

/-- A parameter's box in a later world. -/
theorem box_blk (w w' : World) (A : Array Value) (t : TypeId) (h : Below (w.alloc (.cells A t)).heap.size (w.alloc (.cells A t)) w') : w'.heap[w.heap.size]? = some (.cells A t (0, 0)) := by
  rw [h.block _ (by simp)]
  exact blk_new _ _
theorem box2 {w w' : World} {a b : Value} {t : TypeId} (h : Below (w.alloc (.cells #[a, b] t)).heap.size (w.alloc (.cells #[a, b] t)) w') : w'.cell? ⟨w.heap.size, 0, none⟩ = some a ∧ w'.cell? ⟨w.heap.size, 1, none⟩ = some b := by
  have hb := box_blk _ _ _ _ h
  exact ⟨cell_of_blk hb 0, cell_of_blk hb 1⟩
theorem below_box {w w' : World} {A : Array Value} {t : TypeId} (h : Below (w.alloc (.cells A t)).heap.size (w.alloc (.cells A t)) w') : Below w.heap.size w w' :=
  ((Below.refl w.heap.size w).alloc (Nat.le_refl _) _).trans (h.mono (by simp))

mutual
def Ty.depth : Ty → Nat
  | .mk _ ts => 1 + depthS ts
def depthS : List Ty → Nat
  | [] => 0
  | t :: ts => max t.depth (depthS ts)
end
mutual
/-- Every node has one of the four kinds with its number of parts. -/
def Ty.form : Ty → Bool
  | .mk k ts => formS ts && (if k = 1 ∨ k = 2 then ts.length == 0 else if k = 3 then ts.length == 2 else k == 4 && ts.length == 1)
def formS : List Ty → Bool
  | [] => true
  | t :: ts => t.form && formS ts
end
mutual
def Ty.has (q : Int) : Ty → Bool
  | .mk k ts => hasS q ts || k == q
def hasS (q : Int) : List Ty → Bool
  | [] => false
  | t :: ts => t.has q || hasS q ts
end
theorem depthS_append (a b : List Ty) : depthS (a ++ b) = max (depthS a) (depthS b) := by
  induction a with
  | nil => simp [depthS]
  | cons x a ih => simp only [List.cons_append, depthS, ih]; omega
theorem formS_append (a b : List Ty) : formS (a ++ b) = (formS a && formS b) := by
  induction a with
  | nil => simp [formS]
  | cons x a ih => simp [formS, ih, Bool.and_assoc]
theorem hasS_append (q : Int) (a b : List Ty) : hasS q (a ++ b) = (hasS q a || hasS q b) := by
  induction a with
  | nil => simp [hasS]
  | cons x a ih => simp [hasS, ih, Bool.or_assoc]
theorem take_next {ts : List Ty} {k : Nat} (h : k < ts.length) : ts.take (k + 1) = ts.take k ++ [ts[k]] := by
  rw [List.take_add_one, List.getElem?_eq_getElem h]; rfl
theorem Ty.eta (t : Ty) : t = .mk t.kind t.args := by cases t; rfl
theorem depth_at (t : Ty) : t.depth = 1 + depthS t.args := by cases t; simp [Ty.depth]
theorem Ty.has_at (q : Int) (t : Ty) : t.has q = (hasS q t.args || t.kind == q) := by cases t; simp [Ty.has]
theorem depth_le (ts : List Ty) (h : ∀ t ∈ ts, t.depth ≤ t.nodes) : depthS ts ≤ nodesS ts := by
  induction ts with
  | nil => simp [depthS]
  | cons t ts ih =>
    have h1 := h t (List.mem_cons_self ..)
    have h2 := ih (fun u hu => h u (List.mem_cons_of_mem _ hu))
    simp only [depthS, nodesS]
    omega
theorem Ty.depth_nodes : ∀ t : Ty, t.depth ≤ t.nodes
  | .mk k ts => by
    have := depth_le ts (fun t _ => Ty.depth_nodes t)
    simp only [Ty.depth, Ty.nodes]
    omega
theorem depthS_nodes (ts : List Ty) : depthS ts ≤ nodesS ts := depth_le ts (fun t _ => t.depth_nodes)
theorem nodesS_take_next (ts : List Ty) (k : Nat) (h : k < ts.length) : nodesS (ts.take (k + 1)) = nodesS (ts.take k) + ts[k].nodes := by
  rw [take_next h, nodesS_append]; simp [nodesS]
theorem depthS_take_next (ts : List Ty) (k : Nat) (h : k < ts.length) : depthS (ts.take (k + 1)) = max (depthS (ts.take k)) ts[k].depth := by
  rw [take_next h, depthS_append]; simp [depthS]
theorem depthS_at (ts : List Ty) (k : Nat) (h : k < ts.length) : depthS (ts.take k) ≤ 2097152 ∧ ts[k].depth ≤ 2097152 ∨ 2097152 < nodesS ts := by
  have h1 := depthS_nodes (ts.take k)
  have h2 := ts[k].depth_nodes
  have h3 := nodesS_take_next ts k h
  have h4 := nodesS_take_le ts (k + 1)
  omega
end Go.Proofs.YtdofjnjiandcbaaDoor
/- OpenT: An argument that is a type, opened: the tree that it reads as. -/
namespace Go.Proofs.YtdofjnjiandcbaaDoor
open Go Go.ChangeShapes Go.WideShapes Go.RowKit

theorem cells_ty : Tryd.prog.cellsOf 24 = 2 := by kernel_rfl
theorem cells_int : Tryd.prog.cellsOf 3 = 1 := by kernel_rfl
theorem cells_sl : Tryd.prog.cellsOf 22 = 1 := by kernel_rfl

section
variable {H : Type} {enc : TypeId × Value → H} {w : World} {spare : Nat → Bool} {held : Bool}

theorem cell_of_cells2 {a : Addr} {cs : List Value} {base i : Nat} (h : w.cells? base (a.add (i * 2)) 2 = some cs) : ∃ u v, cs = [u, v] ∧ w.cell? (a.add (i * 2)) = some u ∧ w.cell? (a.add (i * 2 + 1)) = some v := by
  unfold World.cells? at h
  split at h
  · have e : (List.range 2) = [0, 1] := rfl
    rw [e] at h
    simp only [List.mapM_cons, List.mapM_nil, Option.bind_eq_bind, Option.bind_eq_some_iff, Option.pure_def, Option.some.injEq] at h
    obtain ⟨u, hu, l, ⟨v, hv, l', rfl, rfl⟩, rfl⟩ := h
    rw [Go.Deep.add_add] at hu hv
    exact ⟨u, v, rfl, hu, hv⟩
  · cases h

set_option maxRecDepth 100000 in
/-- What a type's two cells read as; what a slice of types reads as. -/
theorem open_ty : ∀ (fuel : Nat), (∀ (cs : List Value) (x : DataW H × List MemPlace), DataW.trod enc Tryd.prog w 0 spare held fuel 24 cs = some x → ∃ (k : Int) (s : Value) (ts : List Ty), cs = [.int .i64 k, s] ∧ TS w (fun _ => True) ts s) ∧
    (∀ (cs : List Value) (x : DataW H × List MemPlace), DataW.trod enc Tryd.prog w 0 spare held fuel 22 cs = some x → ∃ (s : Value) (ts : List Ty), cs = [s] ∧ TS w (fun _ => True) ts s) := by
  intro fuel
  induction fuel using Nat.strongRecOn with
  | _ fuel IH =>
    constructor
    · intro cs x h
      obtain ⟨xs, n, hn, _, hl, hlen, hf⟩ := DataW.trod_struct Tryd.underlying24 h
      rw [cells_ty] at hl
      have g0 : DataW.trod enc Tryd.prog w 0 spare held n 3 ((cs.drop 0).take (Tryd.prog.cellsOf 3)) = xs[0]? := hf 0 _ rfl
      have g1 : DataW.trod enc Tryd.prog w 0 spare held n 22 ((cs.drop 1).take (Tryd.prog.cellsOf 22)) = xs[1]? := hf 1 _ rfl
      rw [cells_int] at g0
      rw [cells_sl] at g1
      match cs, hl, xs, hlen with
      | [c0, c1], _, [y0, y1], _ =>
        obtain ⟨k, hk, _, _⟩ := DataW.trod_int Tryd.underlying3 g0
        obtain ⟨s, ts, hs, ht⟩ := (IH n (by omega)).2 _ _ g1
        simp at hk hs
        subst hk hs
        exact ⟨k, _, ts, rfl, ht⟩
    · intro cs x h
      rcases DataW.trod_slice Tryd.underlying22 h with ⟨rfl, _⟩ | ⟨a, len, cap, elems, rest, n, hn, rfl, _, _, hl, hm, hlen, hel, _, _⟩
      · exact ⟨_, [], rfl, .nil _ _⟩
      · by_cases h0 : len = 0
        · subst h0
          exact ⟨_, [], rfl, .nil _ _⟩
        rw [cells_ty] at hel
        have each : ∀ i, i < len → ∃ z : Int × Value × List Ty, w.cell? (a.add (i * 2)) = some (.int .i64 z.1) ∧ w.cell? (a.add (i * 2 + 1)) = some z.2.1 ∧ TS w (fun _ => True) z.2.2 z.2.1 := by
          intro i hi
          have hb := hel i hi
          rw [List.getElem?_eq_getElem (by omega), Option.bind_eq_some_iff] at hb
          obtain ⟨cs', hcs, ht⟩ := hb
          obtain ⟨k, s, ts, rfl, hT⟩ := (IH n (by omega)).1 _ _ ht
          obtain ⟨u, v, huv, hu, hv⟩ := cell_of_cells2 hcs
          simp only [List.cons.injEq, and_true] at huv
          obtain ⟨rfl, rfl⟩ := huv
          exact ⟨(k, s, ts), hu, hv, hT⟩
        obtain ⟨f, hf⟩ := Go.Deep.choose_lt (α := Int × Value × List Ty) each
        have hspot : a.spot = none := by simpa [Addr.add] using World.cell?_spot (hf 0 (by omega)).1
        obtain ⟨b, o, sp⟩ := a
        simp only at hspot
        subst hspot
        simp only [Go.WideShapes.add_plain] at hf
        have hb : b < w.heap.size := World.block_lt_of_cell? w _ (hf 0 (by omega)).1
        have hlen2 : ((List.range len).map fun i => Ty.mk (f i).1 (f i).2.2).length = len := by simp
        have at_ : ∀ j x, ((List.range len).map fun i => Ty.mk (f i).1 (f i).2.2)[j]? = some x → j < len ∧ x = Ty.mk (f j).1 (f j).2.2 := by
          intro j x hj
          have hlt := (List.getElem?_eq_some_iff.1 hj).1
          rw [hlen2] at hlt
          simp [hlt] at hj
          exact ⟨hlt, hj.symm⟩
        refine ⟨_, (List.range len).map fun i => Ty.mk (f i).1 (f i).2.2, rfl, ?_⟩
        have key := TS.cons (w := w) (C := fun _ => True) (ts := (List.range len).map fun i => Ty.mk (f i).1 (f i).2.2) (b := b) (o := o) (c := cap) (fun j => (f j).2.1) (by omega) (by omega) (by unfold maxLen at hm; omega) trivial hb
          (fun j x hj => by
            obtain ⟨hlt, rfl⟩ := at_ j x hj
            exact (hf j hlt).1)
          (fun j x hj => by
            obtain ⟨hlt, rfl⟩ := at_ j x hj
            exact (hf j hlt).2.1)
          (fun j x hj => by
            obtain ⟨hlt, rfl⟩ := at_ j x hj
            exact (hf j hlt).2.2)
        rw [hlen2] at key
        exact key
end

set_option maxRecDepth 100000 in
/-- THE ARGUMENT OPENED. -/
theorem open_type {H : Type} {enc : TypeId × Value → H} {W : World} {spare : Nat → Bool} {held : Bool} {r : Reach} {b0 : Nat} {v : Value} {d : DataW H} {p : List MemPlace}
    (hv : Value.okWide Tryd.prog W r b0 24 v) (h : DataW.Trod enc Tryd.prog W 0 spare held 24 v d p) : ∃ t : Ty, TT W (fun _ => True) t v := by
  obtain ⟨cs, rfl, hsz⟩ := okWide_struct Tryd.underlying24 hv
  obtain ⟨fuel, hf⟩ := h
  obtain ⟨k, s, ts, hcs, ht⟩ := (open_ty fuel).1 _ _ hf
  have hcs' : cs = #[.int .i64 k, s] := by
    have : cs.toList = [.int .i64 k, s] := hcs
    exact Array.toList_inj.1 this
  subst hcs'
  exact ⟨.mk k ts, s, rfl, ht⟩
end Go.Proofs.YtdofjnjiandcbaaDoor
/- RowN: A row of the call's own, of whatever element: shrunk, appended to (where it lies afterwards is told), kept. Of no program. -/
namespace Go.Proofs.YtdofjnjiandcbaaDoor
open Go Go.RowKit

section
variable {w w' : World} {base size n : Nat} {e : TypeId} {v : Value} {xs : List Value}

theorem row_below (h : w.ownsRow base e size v n xs) (hb : Below w.heap.size w w') : w'.ownsRow base e size v n xs := by
  refine ⟨h.1, ?_⟩
  rcases h.2 with h0 | ⟨g, cap, cur, rfl, hg, hblk, r⟩
  · exact Or.inl h0
  · exact Or.inr ⟨g, cap, cur, rfl, hg, (hb.block g (h.lt g rfl).2).trans hblk, r⟩
theorem row_of_block {g cap : Nat} (h : w.ownsRow base e size (.slice (some ⟨g, 0, none⟩) n cap) n xs) (hb : w'.heap[g]? = w.heap[g]?) : w'.ownsRow base e size (.slice (some ⟨g, 0, none⟩) n cap) n xs := by
  refine ⟨h.1, ?_⟩
  rcases h.2 with h0 | ⟨g', cap', cur, hv, hg, hblk, r⟩
  · exact Or.inl h0
  · simp only [Value.slice.injEq, Option.some.injEq, Addr.mk.injEq, true_and, and_true] at hv
    obtain ⟨rfl, rfl⟩ := hv
    exact Or.inr ⟨g, cap, cur, rfl, hg, hb.trans hblk, r⟩
theorem row_cap {g cap : Nat} (h : w.ownsRow base e size (.slice (some ⟨g, 0, none⟩) n cap) n xs) : n ≤ cap ∧ cap ≤ maxLen ∧ base ≤ g ∧ g < w.heap.size := by
  have hl := h.lt g rfl
  rcases h.2 with h0 | ⟨g', cap', cur, hv, hg, hblk, h1, h2, _⟩
  · exact absurd h0.1 (by simp)
  · simp only [Value.slice.injEq, Option.some.injEq, Addr.mk.injEq, true_and, and_true] at hv
    obtain ⟨rfl, rfl⟩ := hv
    exact ⟨h1, h2, hg, hl.2⟩
theorem row_take {g cap m : Nat} (h : w.ownsRow base e size (.slice (some ⟨g, 0, none⟩) n cap) n xs) (hm : m ≤ n) : w.ownsRow base e size (.slice (some ⟨g, 0, none⟩) m cap) m (xs.take (m * size)) := by
  have hle : m * size ≤ n * size := Nat.mul_le_mul_right _ hm
  refine ⟨by rw [List.length_take, h.1]; omega, ?_⟩
  rcases h.2 with h0 | ⟨g', cap', cur, hv, hg, hblk, h1, h2, h3, h4⟩
  · exact absurd h0.1 (by simp)
  · simp only [Value.slice.injEq, Option.some.injEq, Addr.mk.injEq, true_and, and_true] at hv
    obtain ⟨rfl, rfl⟩ := hv
    exact Or.inr ⟨g, cap, cur, rfl, hg, hblk, Nat.le_trans hm h1, h2, h3, by rw [← h4, List.take_take, Nat.min_eq_left hle]⟩
end

/-- An append: what it yields, and where the row lies afterwards: where it lay, or in a new block. -/
theorem run_app {P : Program} {w : World} (base : Nat) (t ty e : TypeId) (i : TypeInfo) (z : Value) (size bytes : Nat) (ht : P.underlying t = some (.slice e)) (hi : P.info? e = some i) (hz : i.zero = some z)
    (hsize : i.size = size) (hby : i.bytes = bytes) (hzs : z.cells.size = size) (hsz : 0 < size)
    (v : Value) (n : Nat) (xs : List Value) (hown : w.ownsRow base e size v n xs)
    (a : Addr) (m c : Nat) (news : List Value) (hl : news.length = m * size) (hnews : ∀ j u, news[j]? = some u → w.cell? (a.add j) = some u) (h1 : ∀ u ∈ news, u.oneCell' = true)
    (h63 : n + m ≤ maxLen) (hbytes : (n + m) * bytes ≤ 140737488355328) (hbase : base ≤ w.heap.size) :
    ∃ v' w', (Builtin.append_ #[t, t] ty #[v, .slice (some a) m c]).run P w = .ok v' w' ∧ w'.ownsRow base e size v' (n + m) (xs ++ news) ∧ w.grownBy w' v.ownBlock ∧
      ∀ g, v'.ownBlock = some g → v.ownBlock = some g ∨ w.heap.size ≤ g := by
  rcases hown.2 with ⟨rfl, rfl⟩ | ⟨g, cap, cur, rfl, hbg, hg, hnc, hcm, hcs, htake⟩
  · have hx : xs = [] := List.eq_nil_of_length_eq_zero (by simpa using hown.1)
    subst hx
    obtain ⟨v', w', hr, ho, hgr, _⟩ := run_append_own (P := P) w w.heap.size t ty e i z size bytes ht hi hz hsize hby hzs hsz _ 0 [] (World.ownsRow_nil w _ e size) a m c news hl hnews h1 h63 hbytes (Nat.le_refl _)
    exact ⟨v', w', hr, ⟨ho.1, ho.2.elim Or.inl (fun ⟨g, cap, cur, hv, hb, r⟩ => Or.inr ⟨g, cap, cur, hv, Nat.le_trans hbase hb, r⟩)⟩, hgr, fun g hg => Or.inr (ho.lt g hg).1⟩
  · by_cases hroom : n + m ≤ cap
    · obtain ⟨w', hr, ho, hgr⟩ := run_append_fits (P := P) w base t ty e i size ht hi hsize g n cap xs hown a m c news hl hnews h1 hroom
      exact ⟨_, w', hr, ho, hgr, fun k hk => Or.inl hk⟩
    · have holds : ∀ j u, xs[j]? = some u → w.cell? ((⟨g, 0, none⟩ : Addr).add j) = some u := hown.cells (g := g) rfl
      obtain ⟨v', w', hr, ho, hgr⟩ := run_append_arg_grows (P := P) w t ty e i z size bytes ht hi hz hsize hby hzs hsz ⟨g, 0, none⟩ n cap xs hown.1 holds a m c news hl hnews (by omega) h63 hbytes
      exact ⟨v', w', hr, ⟨ho.1, ho.2.elim Or.inl (fun ⟨g, cap, cur, hv, hb, r⟩ => Or.inr ⟨g, cap, cur, hv, Nat.le_trans hbase hb, r⟩)⟩, ⟨hgr.os, hgr.tape, hgr.output, hgr.size, fun k hk _ => hgr.block k hk (by simp)⟩, fun k hk => Or.inr (ho.lt k hk).1⟩

/-- One element behind: v' is the row afterwards; every block that was there and is not the row's stays as it was, and the row is none of them. -/
structure Appd (w0 w' : World) (base : Nat) (e : TypeId) (size : Nat) (v : Value) (n : Nat) (xs cs : List Value) (g cap : Nat) : Prop where
  own : w'.ownsRow base e size (.slice (some ⟨g, 0, none⟩) (n + 1) cap) (n + 1) (xs ++ cs)
  below : Below base w0 w'
  size : w0.heap.size ≤ w'.heap.size
  kept : ∀ b, b < w0.heap.size → v.ownBlock ≠ some b → w'.heap[b]? = w0.heap[b]? ∧ g ≠ b

section
variable {P : Program} {w0 : World} {base : Nat} {t e : TypeId} {i : TypeInfo} {z : Value} {size bytes : Nat} {v : Value} {n : Nat} {xs cs : List Value}

theorem run_app1 (ty : TypeId) (ht : P.underlying t = some (.slice e)) (hi : P.info? e = some i) (hz : i.zero = some z) (hsize : i.size = size) (hby : i.bytes = bytes) (hzs : z.cells.size = size) (hsz : 0 < size)
    (hown : w0.ownsRow base e size v n xs) (hl : cs.length = size) (h1 : ∀ u ∈ cs, u.oneCell' = true) (h63 : n + 1 ≤ maxLen) (hbytes : (n + 1) * bytes ≤ 140737488355328) (hbase : base ≤ w0.heap.size) :
    ∃ w' g cap, (Builtin.append_ #[t, t] ty #[v, .slice (some ⟨w0.heap.size, 0, none⟩) 1 1]).run P (w0.alloc (.cells cs.toArray e)) = .ok (.slice (some ⟨g, 0, none⟩) (n + 1) cap) w' ∧ Appd w0 w' base e size v n xs cs g cap := by
  have hb0 := (Below.refl w0.heap.size w0).alloc (Nat.le_refl _) (.cells cs.toArray e)
  have hown1 := row_below hown hb0
  have hnews : ∀ j u, cs[j]? = some u → (w0.alloc (.cells cs.toArray e)).cell? ((⟨w0.heap.size, 0, none⟩ : Addr).add j) = some u := by
    intro j u hj
    have e1 : ((⟨w0.heap.size, 0, none⟩ : Addr).add j) = ⟨w0.heap.size, j, none⟩ := by unfold Addr.add; split <;> simp_all
    rw [e1, World.cell?_alloc_mark]
    simpa using hj
  obtain ⟨v', w', hr, ho, hg, hwhere⟩ := run_app (P := P) base t ty e i z size bytes ht hi hz hsize hby hzs hsz v n xs hown1 ⟨w0.heap.size, 0, none⟩ 1 1 cs (by omega) hnews h1 h63 hbytes (by simp; omega)
  have hs1 := hg.size
  rw [World.size_alloc] at hs1
  rcases ho.2 with ⟨_, h0⟩ | ⟨g, cap, cur, rfl, hbg, _⟩
  · omega
  · refine ⟨w', g, cap, hr, ho, (((Below.refl base w0).alloc hbase _).grown hg (by simp; omega) (fun k hk => (hown1.lt k hk).1)), by omega, fun b hb hne => ⟨?_, ?_⟩⟩
    · rw [hg.block b (by simp; omega) (fun e => hne e.symm), Below.heap_alloc _ _ _ hb]
    · rintro rfl
      rcases hwhere g rfl with h | h
      · exact hne h
      · simp at h; omega

/-- .. at the operation. -/
theorem wpList_app1 {ops : Array Oper} {rest : List Oper} {o : Oper} {a : Act} {Q : Exit → Act → World → Prop} (hgd : o.guard = none) (s x : Operand)
    (ho : o.op = .call { callee := .builtin .append, args := #[s, x], argTypes := #[t, t] }) (ht : P.underlying t = some (.slice e)) (hi : P.info? e = some i) (hz : i.zero = some z) (hsize : i.size = size) (hby : i.bytes = bytes) (hzs : z.cells.size = size) (hsz : 0 < size)
    (hs : a.eval s = v) (hown : w0.ownsRow base e size v n xs) (bk : Nat) (hx : a.eval x = .slice (some ⟨bk, 0, none⟩) 1 1) (hbk : bk = w0.heap.size) (hl : cs.length = size) (h1 : ∀ u ∈ cs, u.oneCell' = true) (h63 : n + 1 ≤ maxLen) (hbytes : (n + 1) * bytes ≤ 140737488355328) (hbase : base ≤ w0.heap.size)
    (h : ∀ w' g cap, Appd w0 w' base e size v n xs cs g cap → wpList P ops Q rest (a.put o.dst (.slice (some ⟨g, 0, none⟩) (n + 1) cap)) w') :
    wpList P ops Q (o :: rest) a (w0.alloc (.cells cs.toArray e)) := by
  subst hbk
  refine wpList_plain hgd fun K hK => ?_
  obtain ⟨w', g, cap, hrun, hA⟩ := run_app1 (P := P) o.type ht hi hz hsize hby hzs hsz hown hl h1 h63 hbytes hbase
  unfold Oper.wp
  simp [execOp, ho, resolve, invoke, builtin, hs, hx, hrun, Result.andThen]
  exact hK _ _ (h w' g cap hA)
theorem wpListIn_app1 {F : Fence} {m : Nat} {ops : Array Oper} {rest : List Oper} {o : Oper} {a : Act} {Q : Exit → Act → World → Prop} (hgd : o.guard = none) (s x : Operand)
    (ho : o.op = .call { callee := .builtin .append, args := #[s, x], argTypes := #[t, t] }) (ht : P.underlying t = some (.slice e)) (hi : P.info? e = some i) (hz : i.zero = some z) (hsize : i.size = size) (hby : i.bytes = bytes) (hzs : z.cells.size = size) (hsz : 0 < size)
    (hs : a.eval s = v) (hown : w0.ownsRow base e size v n xs) (bk : Nat) (hx : a.eval x = .slice (some ⟨bk, 0, none⟩) 1 1) (hbk : bk = w0.heap.size) (hl : cs.length = size) (h1 : ∀ u ∈ cs, u.oneCell' = true) (h63 : n + 1 ≤ maxLen) (hbytes : (n + 1) * bytes ≤ 140737488355328) (hbase : base ≤ w0.heap.size)
    (h : ∀ w' g cap, Appd w0 w' base e size v n xs cs g cap → wpListIn F m P ops Q rest (a.put o.dst (.slice (some ⟨g, 0, none⟩) (n + 1) cap)) w') :
    wpListIn F m P ops Q (o :: rest) a (w0.alloc (.cells cs.toArray e)) := by
  subst hbk
  refine wpListIn_plain hgd fun K hK => ?_
  obtain ⟨w', g, cap, hrun, hA⟩ := run_app1 (P := P) o.type ht hi hz hsize hby hzs hsz hown hl h1 h63 hbytes hbase
  unfold Oper.wpIn
  refine ⟨by simp [Oper.about, ho, resolve, Target.leads, Sem.run_pure], ?_⟩
  rw [Oper.semAt_plain F _ _ (by rw [ho]; intro c hc'; cases hc')]
  simp [execOp, ho, resolve, invoke, builtin, hs, hx, hrun, Result.andThen]
  exact hK _ _ (h w' g cap hA)
/-- .. as a step of a region that draws its order. -/
theorem step_app1 {ops : Array Oper} {o : Oper} {a : Act} {K : Act → World → Prop} {Q : Exit → Act → World → Prop} {E : Prop} (hgd : o.guard = none) (s x : Operand)
    (ho : o.op = .call { callee := .builtin .append, args := #[s, x], argTypes := #[t, t] }) (ht : P.underlying t = some (.slice e)) (hi : P.info? e = some i) (hz : i.zero = some z) (hsize : i.size = size) (hby : i.bytes = bytes) (hzs : z.cells.size = size) (hsz : 0 < size)
    (hs : a.eval s = v) (hown : w0.ownsRow base e size v n xs) (bk : Nat) (hx : a.eval x = .slice (some ⟨bk, 0, none⟩) 1 1) (hbk : bk = w0.heap.size) (hl : cs.length = size) (h1 : ∀ u ∈ cs, u.oneCell' = true) (h63 : n + 1 ≤ maxLen) (hbytes : (n + 1) * bytes ≤ 140737488355328) (hbase : base ≤ w0.heap.size)
    (h : ∀ w' g cap, Appd w0 w' base e size v n xs cs g cap → K (a.put o.dst (.slice (some ⟨g, 0, none⟩) (n + 1) cap)) w') :
    if Region.wanted o (yielded ops a.tmps) = true then Oper.wp P o a (w0.alloc (.cells cs.toArray e)) K Q else E := by
  subst hbk
  have hw : Region.wanted o (yielded ops a.tmps) = true := by simp [Region.wanted, hgd]
  rw [if_pos hw]
  obtain ⟨w', g, cap, hrun, hA⟩ := run_app1 (P := P) o.type ht hi hz hsize hby hzs hsz hown hl h1 h63 hbytes hbase
  unfold Oper.wp
  simp [execOp, ho, resolve, invoke, builtin, hs, hx, hrun, Result.andThen]
  exact h w' g cap hA
end
end Go.Proofs.YtdofjnjiandcbaaDoor
/- Dat: Data in memory, of no program: a cell, or a slice of structs whose cells lie flat; what a slice holds, that it holds it in every world that keeps its blocks; memory of the call's own, each block apart; one struct more; a row that is filled. -/
namespace Go.Proofs.YtdofjnjiandcbaaDoor
open Go Go.RowKit

/-- A cell, or a slice of n structs of k cells each, of the type T; the cells of all n stand one behind the other. -/
inductive D where
  | cell (u : Value)
  | rows (T : TypeId) (k n : Nat) (ds : List D)

/-- The value v is the datum; C: the blocks it may lie in. -/
inductive DM (w : World) (C : Nat → Prop) : D → Value → Prop
  | cell (u : Value) : DM w C (.cell u) u
  | nil (T : TypeId) (k : Nat) (a : Option Addr) (c : Nat) : DM w C (.rows T k 0 []) (.slice a 0 c)
  | rows {T : TypeId} {k n b o c : Nat} {ds : List D} (V : Nat → Value) (h1 : 1 ≤ n) (hc : n ≤ c) (hm : c ≤ 9223372036854775807) (hl : ds.length = n * k) (hC : C b) (hb : b < w.heap.size)
      (hv : ∀ i d, ds[i]? = some d → w.cell? ⟨b, o + i, none⟩ = some (V i)) (hr : ∀ i d, ds[i]? = some d → DM w C d (V i)) : DM w C (.rows T k n ds) (.slice (some ⟨b, o, none⟩) n c)

theorem DM.stays {w w' : World} {C : Nat → Prop} {d : D} {v : Value} (h : DM w C d v) (hs : Stays C w w') : DM w' C d v := by
  induction h with
  | cell u => exact .cell u
  | nil T k a c => exact .nil T k a c
  | rows V h1 hc hm hl hC hb hv hr ih =>
    exact .rows V h1 hc hm hl hC (Nat.lt_of_lt_of_le hb hs.1) (fun i d hi => by rw [World.cell?_of_block (w := _) (hs.2 _ hC hb)]; exact hv i d hi) ih
theorem DM.keep {w w' : World} {C : Nat → Prop} {d : D} {v : Value} (h : DM w C d v) (hb : Below w.heap.size w w') : DM w' C d v := h.stays (.of_below hb)
theorem DM.mono {w : World} {C C' : Nat → Prop} {d : D} {v : Value} (h : DM w C d v) (hC' : ∀ b, C b → b < w.heap.size → C' b) : DM w C' d v := by
  induction h with
  | cell u => exact .cell u
  | nil T k a c => exact .nil T k a c
  | rows V h1 hc hm hl hC hb hv hr ih => exact .rows V h1 hc hm hl (hC' _ hC hb) hb hv ih
theorem DM.form {w : World} {C : Nat → Prop} {T : TypeId} {k n : Nat} {ds : List D} {v : Value} (h : DM w C (.rows T k n ds) v) : ∃ a c, v = .slice a n c := by
  cases h with
  | nil => exact ⟨_, _, rfl⟩
  | rows => exact ⟨_, _, rfl⟩
theorem DM.len {w : World} {C : Nat → Prop} {T : TypeId} {k n : Nat} {ds : List D} {v : Value} (h : DM w C (.rows T k n ds) v) : n ≤ 9223372036854775807 ∧ ds.length = n * k := by
  cases h with
  | nil => simp
  | rows V h1 hc hm hl => exact ⟨by omega, hl⟩
theorem DM.val {w : World} {C : Nat → Prop} {u v : Value} (h : DM w C (.cell u) v) : v = u := by
  cases h; rfl
/-- One cell of a slice of structs, where it lies: in every world that keeps the blocks. -/
theorem DM.part {w : World} {C : Nat → Prop} {T : TypeId} {k n c : Nat} {p : Option Addr} {ds : List D} (h : DM w C (.rows T k n ds) (.slice p n c)) (hn : 0 < ds.length) :
    ∃ (b o : Nat) (V : Nat → Value), p = some ⟨b, o, none⟩ ∧ C b ∧ b < w.heap.size ∧ (∀ i d, ds[i]? = some d → DM w C d (V i) ∧ ∀ w', Stays C w w' → w'.cell? ⟨b, o + i, none⟩ = some (V i)) := by
  cases h with
  | nil => simp at hn
  | @rows T k n b o c ds V h1 hc hm hl hC hb hv hr =>
    exact ⟨b, o, V, rfl, hC, hb, fun i d hi => ⟨hr i d hi, fun w' hw => (World.cell?_of_block (w := w) (a := ⟨b, o + i, none⟩) (hw.2 b hC hb)).trans (hv i d hi)⟩⟩

/-- The value v is the datum, in rows of the call's own; F: the blocks, which are apart. -/
inductive DO (w : World) : D → Value → (Nat → Prop) → Prop
  | cell (u : Value) (F : Nat → Prop) : DO w (.cell u) u F
  | nil (T : TypeId) (k : Nat) (F : Nat → Prop) : DO w (.rows T k 0 []) (.slice none 0 0) F
  | rows {T : TypeId} {k n b c : Nat} {ds : List D} {F : Nat → Prop} (cur : Array Value) (V : Nat → Value) (G : Nat → Nat → Prop) (hblk : w.heap[b]? = some (.cells cur T (0, 0))) (hsz : cur.size = c * k) (hn : n ≤ c) (hm : c ≤ maxLen)
      (hl : ds.length = n * k) (hF : F b) (hv : ∀ i, i < n * k → cur[i]? = some (V i)) (hr : ∀ i d, ds[i]? = some d → DO w d (V i) (G i))
      (hG : ∀ i z, i < n * k → G i z → F z ∧ z ≠ b) (hd : ∀ i j z, i < n * k → j < n * k → i ≠ j → G i z → G j z → False) : DO w (.rows T k n ds) (.slice (some ⟨b, 0, none⟩) n c) F

theorem blk_lt {w : World} {b : Nat} {o : Obj} (h : w.heap[b]? = some o) : b < w.heap.size := (Array.getElem?_eq_some_iff.1 h).1
theorem ds_lt {ds : List D} {i m : Nat} {d : D} (h : ds[i]? = some d) (hl : ds.length = m) : i < m := hl ▸ (List.getElem?_eq_some_iff.1 h).1

theorem DO.stays {w w' : World} {F : Nat → Prop} {d : D} {v : Value} (h : DO w d v F) : Stays F w w' → DO w' d v F := by
  induction h with
  | cell u F => intro _; exact .cell u F
  | nil T k F => intro _; exact .nil T k F
  | rows cur V G hblk hsz hn hm hl hF hv hr hG hd ih =>
    intro hs
    exact .rows cur V G ((hs.2 _ hF (blk_lt hblk)).trans hblk) hsz hn hm hl hF hv (fun i d hi => ih i d hi ⟨hs.1, fun b hb hlt => hs.2 b (hG i b (ds_lt hi hl) hb).1 hlt⟩) hG hd
theorem DO.keep {w w' : World} {F : Nat → Prop} {d : D} {v : Value} (h : DO w d v F) (hb : Below w.heap.size w w') : DO w' d v F := h.stays (.of_below hb)
theorem DO.mono {w : World} {F F' : Nat → Prop} {d : D} {v : Value} (h : DO w d v F) (hF' : ∀ b, F b → F' b) : DO w d v F' := by
  cases h with
  | cell => exact .cell _ F'
  | nil => exact .nil _ _ F'
  | rows cur V G hblk hsz hn hm hl hF hv hr hG hd => exact .rows cur V G hblk hsz hn hm hl (hF' _ hF) hv hr (fun i z hi hz => ⟨hF' _ (hG i z hi hz).1, (hG i z hi hz).2⟩) hd
theorem DO.inHeap {w : World} {F : Nat → Prop} {d : D} {v : Value} (h : DO w d v F) : DO w d v (fun z => F z ∧ z < w.heap.size) := by
  induction h with
  | cell u F => exact .cell u _
  | nil T k F => exact .nil T k _
  | rows cur V G hblk hsz hn hm hl hF hv hr hG hd ih =>
    exact .rows cur V (fun i z => G i z ∧ z < w.heap.size) hblk hsz hn hm hl ⟨hF, blk_lt hblk⟩ hv ih (fun i z hi hz => ⟨⟨(hG i z hi hz.1).1, hz.2⟩, (hG i z hi hz.1).2⟩) (fun i j z hi hj hij h1 h2 => hd i j z hi hj hij h1.1 h2.1)
theorem DO.dm {w : World} {F : Nat → Prop} {d : D} {v : Value} (h : DO w d v F) : DM w F d v := by
  induction h with
  | cell u F => exact .cell u
  | nil T k F => exact .nil T k _ _
  | @rows T k n b c ds F cur V G hblk hsz hn hm hl hF hv hr hG hd ih =>
    by_cases h0 : n = 0
    · subst h0
      have : ds = [] := List.eq_nil_of_length_eq_zero (by simpa using hl)
      subst this
      exact .nil _ _ _ _
    · refine .rows V (by omega) hn (by unfold maxLen at hm; omega) hl hF (blk_lt hblk) (fun i d hi => ?_) (fun i d hi => (ih i d hi).mono (fun z hz _ => (hG i z (ds_lt hi hl) hz).1))
      rw [Nat.zero_add]
      simp only [World.cell?, hblk]
      exact hv i (ds_lt hi hl)
theorem DO.form {w : World} {F : Nat → Prop} {T : TypeId} {k n : Nat} {ds : List D} {v : Value} (h : DO w (.rows T k n ds) v F) : ∃ a c, v = .slice a n c := h.dm.form

theorem DO.inv {w : World} {F : Nat → Prop} {T : TypeId} {k n : Nat} {ds : List D} {v : Value} (h : DO w (.rows T k n ds) v F) : (n = 0 ∧ ds = [] ∧ v = .slice none 0 0) ∨
    ∃ (b c : Nat) (cur : Array Value) (V : Nat → Value) (G : Nat → Nat → Prop), v = .slice (some ⟨b, 0, none⟩) n c ∧ w.heap[b]? = some (.cells cur T (0, 0)) ∧ cur.size = c * k ∧ n ≤ c ∧ c ≤ maxLen ∧ ds.length = n * k ∧ F b ∧ (∀ i, i < n * k → cur[i]? = some (V i)) ∧
      (∀ i d, ds[i]? = some d → DO w d (V i) (G i)) ∧ (∀ i z, i < n * k → G i z → F z ∧ z ≠ b) ∧ (∀ i j z, i < n * k → j < n * k → i ≠ j → G i z → G j z → False) := by
  cases h with
  | nil => exact Or.inl ⟨rfl, rfl, rfl⟩
  | rows cur V G hblk hsz hn hm hl hF hv hr hG hd => exact Or.inr ⟨_, _, cur, V, G, rfl, hblk, hsz, hn, hm, hl, hF, hv, hr, hG, hd⟩
theorem DO.val {w : World} {F : Nat → Prop} {u v : Value} (h : DO w (.cell u) v F) : v = u := by
  cases h; rfl

/-- A struct's cells, each a datum. -/
def MS (w : World) (C : Nat → Prop) (ds : List D) (vs : List Value) : Prop := vs.length = ds.length ∧ ∀ (i : Nat) (d : D) (v : Value), ds[i]? = some d → vs[i]? = some v → DM w C d v
structure OSt (w : World) (ds : List D) (vs : List Value) (F : Nat → Prop) : Prop where
  len : vs.length = ds.length
  G : ∃ G : Nat → Nat → Prop, (∀ (i : Nat) (d : D) (v : Value), ds[i]? = some d → vs[i]? = some v → DO w d v (G i)) ∧ (∀ i z, i < ds.length → G i z → F z) ∧ ∀ i j z, i < ds.length → j < ds.length → i ≠ j → G i z → G j z → False
theorem MS.stays {w w' : World} {C : Nat → Prop} {ds : List D} {vs : List Value} (h : MS w C ds vs) (hs : Stays C w w') : MS w' C ds vs := ⟨h.1, fun i d v hd hv => (h.2 i d v hd hv).stays hs⟩
theorem MS.keep {w w' : World} {C : Nat → Prop} {ds : List D} {vs : List Value} (h : MS w C ds vs) (hb : Below w.heap.size w w') : MS w' C ds vs := h.stays (.of_below hb)
theorem MS.mono {w : World} {C C' : Nat → Prop} {ds : List D} {vs : List Value} (h : MS w C ds vs) (hC' : ∀ b, C b → b < w.heap.size → C' b) : MS w C' ds vs := ⟨h.1, fun i d v hd hv => (h.2 i d v hd hv).mono hC'⟩
theorem OSt.stays {w w' : World} {F : Nat → Prop} {ds : List D} {vs : List Value} (h : OSt w ds vs F) (hs : Stays F w w') : OSt w' ds vs F := by
  obtain ⟨hl, G, h1, h2, h3⟩ := h
  exact ⟨hl, G, fun i d v hd hv => (h1 i d v hd hv).stays ⟨hs.1, fun b hb hlt => hs.2 b (h2 i b (List.getElem?_eq_some_iff.1 hd).1 hb) hlt⟩, h2, h3⟩
theorem OSt.keep {w w' : World} {F : Nat → Prop} {ds : List D} {vs : List Value} (h : OSt w ds vs F) (hb : Below w.heap.size w w') : OSt w' ds vs F := h.stays (.of_below hb)
theorem OSt.mono {w : World} {F F' : Nat → Prop} {ds : List D} {vs : List Value} (h : OSt w ds vs F) (hF : ∀ b, F b → F' b) : OSt w ds vs F' := by
  obtain ⟨hl, G, h1, h2, h3⟩ := h
  exact ⟨hl, G, h1, fun i z hi hz => hF z (h2 i z hi hz), h3⟩
theorem OSt.ms {w : World} {F : Nat → Prop} {ds : List D} {vs : List Value} (h : OSt w ds vs F) : MS w F ds vs := by
  obtain ⟨hl, G, h1, h2, h3⟩ := h
  exact ⟨hl, fun i d v hd hv => (h1 i d v hd hv).dm.mono (fun z hz _ => h2 i z (List.getElem?_eq_some_iff.1 hd).1 hz)⟩
end Go.Proofs.YtdofjnjiandcbaaDoor
/- Dat2: Data in memory, of no program: one struct more behind a row of the call's own; a row that is filled struct by struct. -/
namespace Go.Proofs.YtdofjnjiandcbaaDoor
open Go Go.RowKit

theorem mul_lt_next {i j k n : Nat} (h : j < n) (hi : i < k) : j * k + i < n * k := by
  have : (j + 1) * k ≤ n * k := Nat.mul_le_mul_right _ h
  rw [Nat.add_mul] at this
  omega

/-- ONE STRUCT MORE: afterwards all lies in blocks from base on, each apart. -/
theorem DO.grow {w : World} {base : Nat} {T : TypeId} {k n : Nat} {ds es : List D} {v : Value} {us : List Value} {F1 F2 : Nat → Prop} (h : DO w (.rows T k n ds) v F1) (hx : OSt w es us F2) (hk : es.length = k)
    (h1 : ∀ z, F1 z → base ≤ z ∧ ¬ F2 z) (h2 : ∀ z, F2 z → base ≤ z ∧ z < w.heap.size) :
    ∃ xs, w.ownsRow base T k v n xs ∧ ∀ (w' : World) (g cap : Nat), Appd w w' base T k v n xs us g cap →
      DO w' (.rows T k (n + 1) (ds ++ es)) (.slice (some ⟨g, 0, none⟩) (n + 1) cap) (fun z => base ≤ z ∧ z < w'.heap.size) := by
  obtain ⟨hul, G2, g1, g2, g3⟩ := hx
  have fin : ∀ (xs : List Value) (V : Nat → Value) (G : Nat → Nat → Prop) (hxs : xs.length = n * k) (hds : ds.length = n * k) (hV : ∀ i, i < n * k → xs[i]? = some (V i))
      (hD : ∀ i d, ds[i]? = some d → DO w d (V i) (fun z => G i z ∧ z < w.heap.size)) (hG : ∀ i z, i < n * k → G i z → F1 z ∧ v.ownBlock ≠ some z) (hd : ∀ i j z, i < n * k → j < n * k → i ≠ j → G i z → G j z → False)
      (hvb : ∀ z, F2 z → v.ownBlock ≠ some z) (w' : World) (g cap : Nat), Appd w w' base T k v n xs us g cap →
      DO w' (.rows T k (n + 1) (ds ++ es)) (.slice (some ⟨g, 0, none⟩) (n + 1) cap) (fun z => base ≤ z ∧ z < w'.heap.size) := by
    intro xs V G hxs hds hV hD hG hd hvb w' g cap hA
    have hs := hA.size
    obtain ⟨_, h0 | ⟨g', cap', cur', hv', hbg, hblk, hn', hm', hsz', htk⟩⟩ := hA.own
    · exact absurd h0.1 (by simp)
    simp only [Value.slice.injEq, Option.some.injEq, Addr.mk.injEq, true_and, and_true] at hv'
    obtain ⟨rfl, rfl⟩ := hv'
    have hlt := blk_lt hblk
    have hnk : (n + 1) * k = n * k + k := by rw [Nat.add_mul]; omega
    have hat : ∀ i, i < (n + 1) * k → cur'[i]? = (xs ++ us)[i]? := fun i hi => by
      rw [← htk, List.getElem?_take, if_pos hi, Array.getElem?_toList]
    have kept : ∀ z, z < w.heap.size → v.ownBlock ≠ some z → w'.heap[z]? = w.heap[z]? ∧ g ≠ z := hA.kept
    refine DO.rows cur' (fun i => if i < n * k then V i else (us[i - n * k]?).getD .nilIface) (fun i z => if i < n * k then G i z ∧ z < w.heap.size else G2 (i - n * k) z) hblk hsz' hn' hm' (by rw [List.length_append]; omega) ⟨hbg, hlt⟩ (fun i hi => ?_) (fun i d hi => ?_) (fun i z hi hz => ?_) (fun i j z hi hj hij hz1 hz2 => ?_)
    · rw [hat i hi]
      by_cases e : i < n * k
      · rw [List.getElem?_append_left (by omega), if_pos e]; exact hV i e
      · have hu : i - n * k < us.length := by omega
        rw [List.getElem?_append_right (by omega), hxs, if_neg e, List.getElem?_eq_getElem hu]; rfl
    · by_cases e : i < n * k
      · rw [List.getElem?_append_left (by omega)] at hi
        simp only [if_pos e]
        exact (hD i d hi).stays ⟨hs, fun z hz hl => (kept z hl (hG i z e hz.1).2).1⟩
      · rw [List.getElem?_append_right (by omega), hds] at hi
        simp only [if_neg e]
        have hlt2 := (List.getElem?_eq_some_iff.1 hi).1
        have hu : us[i - n * k]? = some ((us[i - n * k]?).getD .nilIface) := by rw [List.getElem?_eq_getElem (by omega)]; rfl
        exact (g1 _ d _ hi hu).stays ⟨hs, fun z hz hl => (kept z hl (hvb z (g2 _ z hlt2 hz))).1⟩
    · by_cases e : i < n * k
      · simp only [if_pos e] at hz
        obtain ⟨a1, a2⟩ := hG i z e hz.1
        exact ⟨⟨(h1 z a1).1, by omega⟩, fun e => (kept z hz.2 a2).2 e.symm⟩
      · simp only [if_neg e] at hz
        have hf := g2 _ z (by omega) hz
        obtain ⟨a1, a2⟩ := h2 z hf
        exact ⟨⟨a1, by omega⟩, fun e => (kept z a2 (hvb z hf)).2 e.symm⟩
    · by_cases ei : i < n * k
      · simp only [if_pos ei] at hz1
        by_cases ej : j < n * k
        · simp only [if_pos ej] at hz2
          exact hd i j z ei ej hij hz1.1 hz2.1
        · simp only [if_neg ej] at hz2
          exact (h1 z (hG i z ei hz1.1).1).2 (g2 _ z (by omega) hz2)
      · simp only [if_neg ei] at hz1
        by_cases ej : j < n * k
        · simp only [if_pos ej] at hz2
          exact (h1 z (hG j z ej hz2.1).1).2 (g2 _ z (by omega) hz1)
        · simp only [if_neg ej] at hz2
          exact g3 _ _ z (by omega) (by omega) (by omega) hz1 hz2
  cases h with
  | nil =>
    exact ⟨[], World.ownsRow_nil w base _ k, fin [] (fun _ => .nilIface) (fun _ _ => False) (by simp) (by simp) (fun i hi => by omega) (fun i d hi => by simp at hi) (fun i z hi => by omega) (fun i j z hi => by omega) (fun z _ => by simp [Value.ownBlock])⟩
  | @rows T k n b c ds F cur V G hblk hsz hn hm hl hF hv hr hG hd =>
    have hle : n * k ≤ c * k := Nat.mul_le_mul_right _ hn
    have hxl : (cur.toList.take (n * k)).length = n * k := by rw [List.length_take, Array.length_toList]; omega
    have ob : ∀ z, z ≠ b → (Value.slice (some ⟨b, 0, Option.none⟩) n c).ownBlock ≠ some z := fun z hz => by simp only [Value.ownBlock, ne_eq, Option.some.injEq]; omega
    refine ⟨cur.toList.take (n * k), ⟨hxl, Or.inr ⟨b, c, cur, rfl, (h1 b hF).1, hblk, hn, hm, hsz, rfl⟩⟩, fin _ V G hxl hl (fun i hi => by rw [List.getElem?_take, if_pos hi, Array.getElem?_toList]; exact hv i hi) (fun i d hi => (hr i d hi).inHeap) (fun i z hi hz => ⟨(hG i z hi hz).1, ob z (hG i z hi hz).2⟩) hd (fun z hz => ob z (fun e => (h1 b hF).2 (e ▸ hz)))⟩

/-- Cells stored one behind the other. -/
def setN (w : World) (b : Nat) : Nat → List Value → World
  | _, [] => w
  | o, v :: vs => setN (w.setCell ⟨b, o, none⟩ v) b (o + 1) vs
def setA (cur : Array Value) : Nat → List Value → Array Value
  | _, [] => cur
  | o, v :: vs => setA (cur.setIfInBounds o v) (o + 1) vs
theorem setA_size (vs : List Value) : ∀ (cur : Array Value) (o : Nat), (setA cur o vs).size = cur.size := by
  induction vs with
  | nil => intro _ _; rfl
  | cons v vs ih => intro cur o; rw [setA, ih]; simp
theorem setA_out (vs : List Value) : ∀ (cur : Array Value) (o i : Nat), (i < o ∨ o + vs.length ≤ i) → (setA cur o vs)[i]? = cur[i]? := by
  induction vs with
  | nil => intro _ _ _ _; rfl
  | cons v vs ih =>
    intro cur o i h
    simp only [List.length_cons] at h
    rw [setA, ih _ _ _ (by omega), Array.getElem?_setIfInBounds, if_neg (by omega)]
theorem setA_in (vs : List Value) : ∀ (cur : Array Value) (o i : Nat), i < vs.length → o + vs.length ≤ cur.size → (setA cur o vs)[o + i]? = vs[i]? := by
  induction vs with
  | nil => intro _ _ _ h; simp at h
  | cons v vs ih =>
    intro cur o i h hs
    simp only [List.length_cons] at h hs
    rw [setA]
    cases i with
    | zero =>
      rw [setA_out _ _ _ _ (by omega), Array.getElem?_setIfInBounds, if_pos (by omega), if_pos (by omega)]; rfl
    | succ i =>
      rw [show o + (i + 1) = o + 1 + i by omega, ih _ _ _ (by omega) (by simp; omega)]; rfl
theorem setN_block (vs : List Value) : ∀ (w : World) (b o : Nat) (cur : Array Value) (T : TypeId), w.heap[b]? = some (.cells cur T (0, 0)) → (setN w b o vs).heap[b]? = some (.cells (setA cur o vs) T (0, 0)) := by
  induction vs with
  | nil => intro w b o cur T h; exact h
  | cons v vs ih =>
    intro w b o cur T h
    exact ih _ b (o + 1) _ T (by simp [World.setCell, Array.getElem?_modify, h])
theorem setN_size (vs : List Value) : ∀ (w : World) (b o : Nat), (setN w b o vs).heap.size = w.heap.size := by
  induction vs with
  | nil => intro w b o; rfl
  | cons v vs ih => intro w b o; rw [setN, ih]; simp [World.setCell]
theorem setN_stays (vs : List Value) (F : Nat → Prop) : ∀ (w : World) (b o : Nat), ¬ F b → Stays F w (setN w b o vs) := by
  induction vs with
  | nil => intro w b o _; exact Stays.refl F w
  | cons v vs ih => intro w b o h; exact (setCell_stays w b o v F h).trans (ih _ b (o + 1) h)
theorem setN_below (vs : List Value) (B : Nat) : ∀ (w : World) (b o : Nat), B ≤ b → Below B w (setN w b o vs) := by
  induction vs with
  | nil => intro w b o _; exact Below.refl B w
  | cons v vs ih => intro w b o h; exact ((Below.refl B w).setCell (p := ⟨b, o, none⟩) h v).trans (ih _ b (o + 1) h)

/-- A row that is being filled, struct by struct: j of them are there. -/
def FilD (w : World) (b : Nat) (T : TypeId) (k n c : Nat) (ds : List D) (j : Nat) : Prop :=
  ∃ (cur : Array Value) (V : Nat → Value) (G : Nat → Nat → Prop), w.heap[b]? = some (.cells cur T (0, 0)) ∧ cur.size = c * k ∧ n ≤ c ∧ (∀ i, i < j * k → cur[i]? = some (V i)) ∧ (∀ i d, i < j * k → ds[i]? = some d → DO w d (V i) (G i)) ∧
    (∀ i z, i < j * k → G i z → b < z ∧ z < w.heap.size) ∧ (∀ i i' z, i < j * k → i' < j * k → i ≠ i' → G i z → G i' z → False)
theorem FilD.lt {w : World} {b k n c j : Nat} {T : TypeId} {ds : List D} (h : FilD w b T k n c ds j) : b < w.heap.size := by
  obtain ⟨cur, V, G, hb, _⟩ := h
  exact blk_lt hb
theorem FilD.start {w : World} {base b n c k : Nat} {T : TypeId} {xs : List Value} {ds : List D} (h : w.ownsRow base T k (.slice (some ⟨b, 0, none⟩) n c) n xs) : FilD w b T k n c ds 0 := by
  obtain ⟨_, h0 | ⟨g, cap, cur, hv, hg, hblk, h1, h2, h3, h4⟩⟩ := h
  · exact absurd h0.1 (by simp)
  · simp only [Value.slice.injEq, Option.some.injEq, Addr.mk.injEq, true_and, and_true] at hv
    obtain ⟨rfl, rfl⟩ := hv
    exact ⟨cur, fun _ => .nilIface, fun _ _ => False, hblk, h3, h1, fun i hi => by simp at hi, fun i d hi => by simp at hi, fun i z hi => by simp at hi, fun i i' z hi => by simp at hi⟩
theorem FilD.frz {w w1 : World} {b k n c j : Nat} {T : TypeId} {ds : List D} (h : FilD w b T k n c ds j) (hb : Below w.heap.size w w1) (i : Nat) : w1.frozen? ⟨b, i, none⟩ = false := by
  have hl := h.lt
  obtain ⟨cur, V, G, hblk, _⟩ := h
  have := (hb.block b hl).trans hblk
  simp [World.frozen?, this]
/-- The j-th struct was made behind; it is stored. -/
theorem FilD.next {w w1 : World} {b k n c j : Nat} {T : TypeId} {ds es : List D} {us : List Value} (h : FilD w b T k n c ds j) (hb : Below w.heap.size w w1) (hj : j < n) (hk : es.length = k) (hes : ∀ i, i < k → ds[j * k + i]? = es[i]?)
    (ho : OSt w1 es us (fun g => w.heap.size ≤ g ∧ g < w1.heap.size)) :
    (∀ i, i < k → ∃ q, w1.cell? ⟨b, j * k + i, none⟩ = some q) ∧ FilD (setN w1 b (j * k) us) b T k n c ds (j + 1) := by
  have hlt := h.lt
  obtain ⟨cur, V, G, hblk, hsz, hn, hV, hD, hG, hd⟩ := h
  obtain ⟨hul, G2, g1, g2, g3⟩ := ho
  have hb1 := (hb.block b hlt).trans hblk
  have hin : ∀ i, i < k → j * k + i < c * k := fun i hi => mul_lt_next (by omega) hi
  have hnk : (j + 1) * k = j * k + k := by rw [Nat.add_mul]; omega
  have hfit : j * k + us.length ≤ cur.size := by
    rcases Nat.eq_zero_or_pos k with h0 | h0
    · have hu0 : us.length = 0 := by omega
      rw [hu0, h0]; simp
    · have := hin (k - 1) (by omega); omega
  have stay : ∀ F : Nat → Prop, ¬ F b → Stays F w1 (setN w1 b (j * k) us) := fun F hF => setN_stays us F w1 b (j * k) hF
  refine ⟨fun i hi => ?_, setA cur (j * k) us, fun i => if i < j * k then V i else (us[i - j * k]?).getD .nilIface, fun i z => if i < j * k then G i z else G2 (i - j * k) z, setN_block us w1 b (j * k) cur T hb1, by rw [setA_size, hsz], hn, fun i hi => ?_, fun i d hi hdi => ?_, fun i z hi hz => ?_, fun i i' z hi hi' hii h1 h2 => ?_⟩
  · have : j * k + i < cur.size := by have := hin i hi; omega
    refine ⟨cur[j * k + i], ?_⟩
    simp [World.cell?, hb1, Array.getElem?_eq_getElem this]
  · by_cases e : i < j * k
    · rw [setA_out _ _ _ _ (Or.inl e)]; dsimp only; rw [if_pos e]; exact hV i e
    · have := setA_in us cur (j * k) (i - j * k) (by omega) hfit
      rw [show j * k + (i - j * k) = i by omega] at this
      rw [this]; dsimp only; rw [if_neg e, List.getElem?_eq_getElem (by omega)]; rfl
  · by_cases e : i < j * k
    · simp only [if_pos e]
      exact ((hD i d e hdi).keep hb).stays (stay _ (fun hh => by have := hG i b e hh; omega))
    · simp only [if_neg e]
      have he := hes (i - j * k) (by omega)
      rw [show j * k + (i - j * k) = i by omega, hdi] at he
      have hu : us[i - j * k]? = some ((us[i - j * k]?).getD .nilIface) := by rw [List.getElem?_eq_getElem (by omega)]; rfl
      exact (g1 _ d _ he.symm hu).stays (stay _ (fun hh => by have := g2 _ b (by omega) hh; omega))
  · rw [setN_size]
    by_cases e : i < j * k
    · simp only [if_pos e] at hz
      have := hG i z e hz
      have := hb.size
      omega
    · simp only [if_neg e] at hz
      have := g2 _ z (by omega) hz
      omega
  · by_cases ei : i < j * k
    · simp only [if_pos ei] at h1
      by_cases ej : i' < j * k
      · simp only [if_pos ej] at h2
        exact hd i i' z ei ej hii h1 h2
      · simp only [if_neg ej] at h2
        have := hG i z ei h1
        have := g2 _ z (by omega) h2
        omega
    · simp only [if_neg ei] at h1
      by_cases ej : i' < j * k
      · simp only [if_pos ej] at h2
        have := hG i' z ej h2
        have := g2 _ z (by omega) h1
        omega
      · simp only [if_neg ej] at h2
        exact g3 _ _ z (by omega) (by omega) (by omega) h1 h2
theorem FilD.full {w : World} {b k n c : Nat} {T : TypeId} {ds : List D} (h : FilD w b T k n c ds n) (hl : ds.length = n * k) (hm : c ≤ maxLen) : DO w (.rows T k n ds) (.slice (some ⟨b, 0, none⟩) n c) (fun g => b ≤ g ∧ g < w.heap.size) := by
  have hlt := h.lt
  obtain ⟨cur, V, G, hblk, hsz, hn, hV, hD, hG, hd⟩ := h
  refine .rows cur V G hblk hsz hn hm hl ⟨Nat.le_refl _, hlt⟩ hV (fun i d hi => hD i d (ds_lt hi hl) hi) (fun i z hi hz => ?_) hd
  have := hG i z hi hz
  exact ⟨⟨by omega, by omega⟩, by omega⟩
end Go.Proofs.YtdofjnjiandcbaaDoor
/- Tm: Types and terms as data: the cells of each, flat; from the trees of types to data and back; terms in memory, the induction over them; what they weigh. -/
namespace Go.Proofs.YtdofjnjiandcbaaDoor
open Go Go.RowKit

/-- Cells of structs, one behind the other. -/
theorem flat_at {α β : Type} (f : α → List β) (k : Nat) (hk : ∀ x, (f x).length = k) : ∀ (xs : List α) (j i : Nat), i < k → (xs.flatMap f)[j * k + i]? = (xs[j]?).bind fun x => (f x)[i]?
  | [], j, i, _ => by simp
  | x :: xs, 0, i, hi => by
    rw [Nat.zero_mul, Nat.zero_add, List.flatMap_cons, List.getElem?_append_left (by rw [hk]; exact hi)]; rfl
  | x :: xs, j + 1, i, hi => by
    have := flat_at f k hk xs j i hi
    rw [List.flatMap_cons, List.getElem?_append_right (by rw [hk, Nat.add_mul]; omega), hk, Nat.add_mul, Nat.one_mul, show j * k + k + i - k = j * k + i by omega, this]
    rfl
theorem flat_len {α β : Type} (f : α → List β) (k : Nat) (hk : ∀ x, (f x).length = k) (xs : List α) : (xs.flatMap f).length = xs.length * k := by
  induction xs with
  | nil => simp
  | cons x xs ih => rw [List.flatMap_cons, List.length_append, ih, hk, List.length_cons, Nat.add_mul]; omega

mutual
/-- The cells of a type; of types. -/
def Ty.ds : Ty → List D
  | .mk k ts => [.cell (.int .i64 k), .rows 32 2 ts.length (flatTy ts)]
def flatTy : List Ty → List D
  | [] => []
  | t :: ts => t.ds ++ flatTy ts
end
theorem Ty.ds_len (t : Ty) : t.ds.length = 2 := by cases t; rfl
theorem flatTy_eq (ts : List Ty) : flatTy ts = ts.flatMap Ty.ds := by
  induction ts with
  | nil => rfl
  | cons t ts ih => rw [flatTy, ih]; rfl
theorem flatTy_len (ts : List Ty) : (flatTy ts).length = ts.length * 2 := by rw [flatTy_eq, flat_len _ 2 Ty.ds_len]
theorem flatTy_at (ts : List Ty) (j : Nat) (h : j < ts.length) : (flatTy ts)[j * 2]? = some (.cell (.int .i64 ts[j].kind)) ∧ (flatTy ts)[j * 2 + 1]? = some (.rows 32 2 ts[j].args.length (flatTy ts[j].args)) := by
  have h0 := flat_at Ty.ds 2 Ty.ds_len ts j 0 (by omega)
  have h1 := flat_at Ty.ds 2 Ty.ds_len ts j 1 (by omega)
  rw [List.getElem?_eq_getElem h] at h0 h1
  rw [flatTy_eq]
  exact ⟨by rw [Nat.add_zero] at h0; rw [h0]; cases ts[j]; rfl, by rw [h1]; cases ts[j]; rfl⟩
theorem div2 {i n : Nat} (h : i < n * 2) : ∃ j, j < n ∧ (i = j * 2 ∨ i = j * 2 + 1) := ⟨i / 2, by omega, by omega⟩

/-- A slice of types as data. -/
abbrev tyD (ts : List Ty) : D := .rows 32 2 ts.length (flatTy ts)
theorem TS.dm {w : World} {C : Nat → Prop} {ts : List Ty} {v : Value} (h : TS w C ts v) : DM w C (tyD ts) v := by
  induction h with
  | nil a c => exact .nil _ _ a c
  | @cons ts b o c S h1 hc hm hC hb hk hs hr ih =>
    refine .rows (fun i => if i % 2 = 0 then .int .i64 ((ts[i / 2]?).map Ty.kind |>.getD 0) else S (i / 2)) h1 hc hm (flatTy_len ts) hC hb (fun i d hi => ?_) (fun i d hi => ?_)
    all_goals
      have hlt : i < ts.length * 2 := by rw [← flatTy_len]; exact (List.getElem?_eq_some_iff.1 hi).1
      obtain ⟨j, hj, e⟩ := div2 hlt
      have hx := List.getElem?_eq_getElem hj
      obtain ⟨f0, f1⟩ := flatTy_at ts j hj
    · rcases e with rfl | rfl
      · simp only [Nat.mul_mod_left, if_true, Nat.mul_div_cancel _ (by omega : 0 < 2), hx, Option.map_some, Option.getD_some]
        exact hk j _ hx
      · simp only [show (j * 2 + 1) % 2 = 1 by omega, show (j * 2 + 1) / 2 = j by omega, Nat.one_ne_zero, if_false]
        exact hs j _ hx
    · rcases e with rfl | rfl
      · simp only [Nat.mul_mod_left, if_true, Nat.mul_div_cancel _ (by omega : 0 < 2), hx, Option.map_some, Option.getD_some]
        rw [f0] at hi; cases hi
        exact .cell _
      · simp only [show (j * 2 + 1) % 2 = 1 by omega, show (j * 2 + 1) / 2 = j by omega, Nat.one_ne_zero, if_false]
        rw [f1] at hi; cases hi
        exact ih j _ hx
theorem DM.ts {w : World} {C : Nat → Prop} : ∀ (m : Nat) {ts : List Ty} {v : Value}, nodesS ts ≤ m → DM w C (tyD ts) v → TS w C ts v
  | m, [], v, _, h => by
    obtain ⟨a, c, rfl⟩ := h.form
    exact .nil a c
  | 0, t :: ts, v, hm, h => by simp only [nodesS, Ty.nodes_eq] at hm; omega
  | m + 1, t :: ts, v, hn, h => by
    have hne : (flatTy (t :: ts)).length = (t :: ts).length * 2 := flatTy_len _
    cases h with
    | @rows _ _ _ b o c _ V h1 hc hm hl hC hb hv hr =>
      refine .cons (fun j => V (j * 2 + 1)) h1 hc hm hC hb (fun j x hj => ?_) (fun j x hj => ?_) (fun j x hj => ?_)
      all_goals
        obtain ⟨hlt, rfl⟩ := List.getElem?_eq_some_iff.1 hj
        obtain ⟨f0, f1⟩ := flatTy_at (t :: ts) j hlt
      · have := (hr _ _ f0).val
        rw [hv _ _ f0, this]
      · exact hv _ _ f1
      · refine DM.ts m ?_ (hr _ _ f1)
        have := nodesS_at (t :: ts) j hlt
        omega
theorem OS.dO {w : World} {F : Nat → Prop} {ts : List Ty} {v : Value} (h : OS w ts v F) : DO w (tyD ts) v F := by
  induction h with
  | none F => exact .nil _ _ F
  | @row ts b c F K S G hrow hm hF hk hr hG hd ih =>
    obtain ⟨cur, hblk, hsz, hn, hat⟩ := hrow
    refine .rows cur (fun i => if i % 2 = 0 then .int .i64 (K (i / 2)) else S (i / 2)) (fun i z => i % 2 = 1 ∧ G (i / 2) z) hblk hsz hn hm (flatTy_len ts) hF (fun i hi => ?_) (fun i d hi => ?_) (fun i z hi hz => hG (i / 2) z (by omega) hz.2) (fun i j z hi hj hij h1 h2 => hd (i / 2) (j / 2) z (by omega) (by omega) (by omega) h1.2 h2.2)
    · obtain ⟨j, hj, e⟩ := div2 hi
      rcases e with rfl | rfl
      · simp only [Nat.mul_mod_left, if_true, Nat.mul_div_cancel _ (by omega : 0 < 2)]
        exact (hat j hj).1
      · simp only [show (j * 2 + 1) % 2 = 1 by omega, show (j * 2 + 1) / 2 = j by omega, Nat.one_ne_zero, if_false]
        exact (hat j hj).2
    · have hlt : i < ts.length * 2 := by rw [← flatTy_len]; exact (List.getElem?_eq_some_iff.1 hi).1
      obtain ⟨j, hj, e⟩ := div2 hlt
      have hx := List.getElem?_eq_getElem hj
      obtain ⟨f0, f1⟩ := flatTy_at ts j hj
      rcases e with rfl | rfl
      · rw [f0] at hi; cases hi
        simp only [Nat.mul_mod_left, if_true, Nat.mul_div_cancel _ (by omega : 0 < 2), hk j _ hx]
        exact .cell _ _
      · rw [f1] at hi; cases hi
        simp only [show (j * 2 + 1) % 2 = 1 by omega, show (j * 2 + 1) / 2 = j by omega, Nat.one_ne_zero, if_false]
        exact (ih j _ hx).mono (fun z hz => ⟨trivial, hz⟩)
theorem DO.os {w : World} : ∀ (m : Nat) {F : Nat → Prop} {ts : List Ty} {v : Value}, nodesS ts ≤ m → DO w (tyD ts) v F → OS w ts v F
  | m, F, ts, v, hn, h => by
    rcases h.inv with ⟨h0, _, rfl⟩ | ⟨b, c, cur, V, G, rfl, hblk, hsz, hnc, hm, hl, hF, hv, hr, hG, hd⟩
    · obtain rfl := List.eq_nil_of_length_eq_zero h0
      exact .none F
    · have hat : ∀ j, j < ts.length → cur[j * 2]? = some (.int .i64 ((ts[j]?).map Ty.kind |>.getD 0)) ∧ cur[j * 2 + 1]? = some (V (j * 2 + 1)) := fun j hj => by
        obtain ⟨f0, f1⟩ := flatTy_at ts j hj
        have h1 := hv (j * 2) (by omega)
        rw [(hr _ _ f0).val] at h1
        rw [List.getElem?_eq_getElem hj]
        exact ⟨h1, hv (j * 2 + 1) (by omega)⟩
      refine .row (fun j => (ts[j]?).map Ty.kind |>.getD 0) (fun j => V (j * 2 + 1)) (fun j => G (j * 2 + 1)) ⟨cur, hblk, hsz, hnc, hat⟩ hm hF (fun j x hj => by simp only [hj, Option.map_some, Option.getD_some]) (fun j x hj => ?_) (fun j z hj hz => hG _ z (by omega) hz) (fun i j z hi hj hij h1 h2 => hd _ _ z (by omega) (by omega) (by omega) h1 h2)
      obtain ⟨hlt, rfl⟩ := List.getElem?_eq_some_iff.1 hj
      have hle := nodesS_at ts j hlt
      match m, hn with
      | 0, hn => omega
      | m + 1, hn => exact DO.os m (by omega) (hr _ _ (flatTy_at ts j hlt).2)

inductive Tm where
  | mk (kind : Int) (name other : ByteArray) (n : Int) (ty res : Ty) (args : List Tm)
namespace Tm
def kind : Tm → Int | mk k _ _ _ _ _ _ => k
def name : Tm → ByteArray | mk _ a _ _ _ _ _ => a
def other : Tm → ByteArray | mk _ _ b _ _ _ _ => b
def n : Tm → Int | mk _ _ _ n _ _ _ => n
def ty : Tm → Ty | mk _ _ _ _ t _ _ => t
def res : Tm → Ty | mk _ _ _ _ _ r _ => r
def args : Tm → List Tm | mk _ _ _ _ _ _ ts => ts
end Tm
theorem Tm.eta (t : Tm) : t = .mk t.kind t.name t.other t.n t.ty t.res t.args := by cases t; rfl
theorem Tm.ext' {a b : Tm} (h1 : a.kind = b.kind) (h2 : a.name = b.name) (h3 : a.other = b.other) (h4 : a.n = b.n) (h5 : a.ty = b.ty) (h6 : a.res = b.res) (h7 : a.args = b.args) : a = b := by
  rw [a.eta, b.eta, h1, h2, h3, h4, h5, h6, h7]
mutual
/-- The cells of a term; of terms. -/
def Tm.ds : Tm → List D
  | .mk k a b n t r ts => [.cell (.int .i64 k), .cell (.string a), .cell (.string b), .cell (.int .i64 n), .cell (.int .i64 t.kind), tyD t.args, .cell (.int .i64 r.kind), tyD r.args, .rows 35 9 ts.length (flatTm ts)]
def flatTm : List Tm → List D
  | [] => []
  | t :: ts => t.ds ++ flatTm ts
end
/-- A slice of terms as data. -/
abbrev tmD (ts : List Tm) : D := .rows 35 9 ts.length (flatTm ts)
theorem Tm.ds_eq (x : Tm) : x.ds = [.cell (.int .i64 x.kind), .cell (.string x.name), .cell (.string x.other), .cell (.int .i64 x.n), .cell (.int .i64 x.ty.kind), tyD x.ty.args, .cell (.int .i64 x.res.kind), tyD x.res.args, tmD x.args] := by
  cases x; rfl
theorem Tm.ds_len (t : Tm) : t.ds.length = 9 := by cases t; rfl
theorem flatTm_eq (ts : List Tm) : flatTm ts = ts.flatMap Tm.ds := by
  induction ts with
  | nil => rfl
  | cons t ts ih => rw [flatTm, ih]; rfl
theorem flatTm_len (ts : List Tm) : (flatTm ts).length = ts.length * 9 := by rw [flatTm_eq, flat_len _ 9 Tm.ds_len]
theorem flatTm_at (ts : List Tm) (j i : Nat) (h : j < ts.length) (hi : i < 9) : (flatTm ts)[j * 9 + i]? = (ts[j].ds)[i]? := by
  rw [flatTm_eq, flat_at Tm.ds 9 Tm.ds_len ts j i hi, List.getElem?_eq_getElem h]; rfl
theorem flatTm_append (a b : List Tm) : flatTm (a ++ b) = flatTm a ++ flatTm b := by simp [flatTm_eq]

mutual
/-- The nodes of a term; what it weighs: the letters of its names, the nodes of its types, its parts. -/
def Tm.nodes : Tm → Nat
  | .mk _ _ _ _ _ _ ts => 1 + nodesM ts
def nodesM : List Tm → Nat
  | [] => 0
  | t :: ts => t.nodes + nodesM ts
end
mutual
def Tm.wt : Tm → Nat
  | .mk _ a b _ t r ts => a.size + b.size + nodesS t.args + nodesS r.args + wtS ts
def wtS : List Tm → Nat
  | [] => 0
  | t :: ts => 1 + t.wt + wtS ts
end
theorem Tm.nodes_eq (t : Tm) : t.nodes = 1 + nodesM t.args := by cases t; simp [Tm.nodes, Tm.args]
theorem Tm.wt_eq (t : Tm) : t.wt = t.name.size + t.other.size + nodesS t.ty.args + nodesS t.res.args + wtS t.args := by cases t; simp [Tm.wt, Tm.name, Tm.other, Tm.ty, Tm.res, Tm.args]
theorem nodesM_append (a b : List Tm) : nodesM (a ++ b) = nodesM a + nodesM b := by
  induction a with
  | nil => simp [nodesM]
  | cons x a ih => simp only [List.cons_append, nodesM, ih]; omega
theorem wtS_append (a b : List Tm) : wtS (a ++ b) = wtS a + wtS b := by
  induction a with
  | nil => simp [wtS]
  | cons x a ih => simp only [List.cons_append, wtS, ih]; omega
theorem tm_take_next {ts : List Tm} {k : Nat} (h : k < ts.length) : ts.take (k + 1) = ts.take k ++ [ts[k]] := by
  rw [List.take_add_one, List.getElem?_eq_getElem h]; rfl
theorem wtS_take (ts : List Tm) (k : Nat) (h : k < ts.length) : wtS (ts.take (k + 1)) = wtS (ts.take k) + (1 + ts[k].wt) := by
  rw [tm_take_next h, wtS_append]; simp [wtS]
theorem wtS_take_le (ts : List Tm) (k : Nat) : wtS (ts.take k) ≤ wtS ts := by
  have h := wtS_append (ts.take k) (ts.drop k)
  rw [List.take_append_drop] at h
  omega
theorem wtS_ge (ts : List Tm) : ts.length ≤ wtS ts := by
  induction ts with
  | nil => simp
  | cons a ts ih => simp only [List.length_cons, wtS]; omega
theorem wtS_at (ts : List Tm) (k : Nat) (h : k < ts.length) : 1 + ts[k].wt ≤ wtS ts := by
  have h1 := wtS_take ts k h
  have h2 := wtS_take_le ts (k + 1)
  omega
theorem nodesM_take (ts : List Tm) (k : Nat) (h : k < ts.length) : nodesM (ts.take (k + 1)) = nodesM (ts.take k) + ts[k].nodes := by
  rw [tm_take_next h, nodesM_append]; simp [nodesM]
theorem nodesM_take_le (ts : List Tm) (k : Nat) : nodesM (ts.take k) ≤ nodesM ts := by
  have h := nodesM_append (ts.take k) (ts.drop k)
  rw [List.take_append_drop] at h
  omega
theorem nodesM_at (ts : List Tm) (k : Nat) (h : k < ts.length) : ts[k].nodes ≤ nodesM ts := by
  have h1 := nodesM_take ts k h
  have h2 := nodesM_take_le ts (k + 1)
  omega
mutual
theorem nodesM_wt : ∀ ts : List Tm, nodesM ts ≤ wtS ts
  | [] => Nat.le_refl _
  | t :: ts => by
    have h1 := Tm.nodes_wt t
    have h2 := nodesM_wt ts
    simp only [nodesM, wtS]
    omega
theorem Tm.nodes_wt : ∀ t : Tm, t.nodes ≤ 1 + t.wt
  | .mk k a b n t r ts => by
    have := nodesM_wt ts
    simp only [Tm.nodes, Tm.wt]
    omega
end

/-- A struct value that is the term t. -/
abbrev tmV (t : Tm) (tp : Option Addr) (tc : Nat) (rp : Option Addr) (rc : Nat) (p : Option Addr) (c : Nat) : Value :=
  .agg #[.int .i64 t.kind, .string t.name, .string t.other, .int .i64 t.n, .int .i64 t.ty.kind, .slice tp t.ty.args.length tc, .int .i64 t.res.kind, .slice rp t.res.args.length rc, .slice p t.args.length c]
structure TM' (w : World) (C : Nat → Prop) (t : Tm) (tp : Option Addr) (tc : Nat) (rp : Option Addr) (rc : Nat) (p : Option Addr) (c : Nat) : Prop where
  ty : TS w C t.ty.args (.slice tp t.ty.args.length tc)
  res : TS w C t.res.args (.slice rp t.res.args.length rc)
  args : DM w C (tmD t.args) (.slice p t.args.length c)
def TM (w : World) (C : Nat → Prop) (t : Tm) (v : Value) : Prop := ∃ tp tc rp rc p c, v = tmV t tp tc rp rc p c ∧ TM' w C t tp tc rp rc p c
theorem TM'.stays {w w' : World} {C : Nat → Prop} {t : Tm} {tp rp p : Option Addr} {tc rc c : Nat} (h : TM' w C t tp tc rp rc p c) (hs : Stays C w w') : TM' w' C t tp tc rp rc p c := ⟨h.ty.stays hs, h.res.stays hs, h.args.stays hs⟩
theorem TM'.mono {w : World} {C C' : Nat → Prop} {t : Tm} {tp rp p : Option Addr} {tc rc c : Nat} (h : TM' w C t tp tc rp rc p c) (hC : ∀ b, C b → b < w.heap.size → C' b) : TM' w C' t tp tc rp rc p c := ⟨h.ty.mono hC, h.res.mono hC, h.args.mono hC⟩
theorem TM.stays {w w' : World} {C : Nat → Prop} {t : Tm} {v : Value} (h : TM w C t v) (hs : Stays C w w') : TM w' C t v := by
  obtain ⟨tp, tc, rp, rc, p, c, hv, h⟩ := h
  exact ⟨tp, tc, rp, rc, p, c, hv, h.stays hs⟩
theorem TM.keep {w w' : World} {C : Nat → Prop} {t : Tm} {v : Value} (h : TM w C t v) (hb : Below w.heap.size w w') : TM w' C t v := h.stays (.of_below hb)
theorem TM.mono {w : World} {C C' : Nat → Prop} {t : Tm} {v : Value} (h : TM w C t v) (hC : ∀ b, C b → b < w.heap.size → C' b) : TM w C' t v := by
  obtain ⟨tp, tc, rp, rc, p, c, hv, h⟩ := h
  exact ⟨tp, tc, rp, rc, p, c, hv, h.mono hC⟩

/-- The nine cells of one term of a slice of terms, in a world. -/
structure At9 (w : World) (b o : Nat) (t : Tm) (tp : Option Addr) (tc : Nat) (rp : Option Addr) (rc : Nat) (p : Option Addr) (c : Nat) : Prop where
  kind : w.cell? ⟨b, o, none⟩ = some (.int .i64 t.kind)
  name : w.cell? ⟨b, o + 1, none⟩ = some (.string t.name)
  other : w.cell? ⟨b, o + 2, none⟩ = some (.string t.other)
  n : w.cell? ⟨b, o + 3, none⟩ = some (.int .i64 t.n)
  tk : w.cell? ⟨b, o + 4, none⟩ = some (.int .i64 t.ty.kind)
  ta : w.cell? ⟨b, o + 5, none⟩ = some (.slice tp t.ty.args.length tc)
  rk : w.cell? ⟨b, o + 6, none⟩ = some (.int .i64 t.res.kind)
  ra : w.cell? ⟨b, o + 7, none⟩ = some (.slice rp t.res.args.length rc)
  args : w.cell? ⟨b, o + 8, none⟩ = some (.slice p t.args.length c)
/-- One term of a slice of terms: where it lies, in every world that keeps the blocks. -/
theorem tm_part {w0 : World} {C : Nat → Prop} {ts : List Tm} {q : Option Addr} {d : Nat} (h : DM w0 C (tmD ts) (.slice q ts.length d)) (j : Nat) (hj : j < ts.length) :
    ∃ (b o : Nat) (tp : Option Addr) (tc : Nat) (rp : Option Addr) (rc : Nat) (p : Option Addr) (c : Nat), q = some ⟨b, o, none⟩ ∧ C b ∧ b < w0.heap.size ∧ (∀ w', Stays C w0 w' → At9 w' b (o + j * 9) ts[j] tp tc rp rc p c) ∧ TM' w0 C ts[j] tp tc rp rc p c := by
  obtain ⟨b, o, V, rfl, hC, hb, hp⟩ := h.part (by rw [flatTm_len]; omega)
  have hx := ts[j].ds_eq
  have part : ∀ (i : Nat) (d : D), i < 9 → (ts[j].ds)[i]? = some d → DM w0 C d (V (j * 9 + i)) ∧ ∀ w', Stays C w0 w' → w'.cell? ⟨b, o + j * 9 + i, none⟩ = some (V (j * 9 + i)) := fun i d hi hd => by
    obtain ⟨h1, h2⟩ := hp (j * 9 + i) d (by rw [flatTm_at ts j i hj hi]; exact hd)
    exact ⟨h1, fun w' hw => by rw [Nat.add_assoc]; exact h2 w' hw⟩
  rw [hx] at part
  obtain ⟨a0, b0⟩ := part 0 _ (by omega) rfl
  obtain ⟨a1, b1⟩ := part 1 _ (by omega) rfl
  obtain ⟨a2, b2⟩ := part 2 _ (by omega) rfl
  obtain ⟨a3, b3⟩ := part 3 _ (by omega) rfl
  obtain ⟨a4, b4⟩ := part 4 _ (by omega) rfl
  obtain ⟨a5, b5⟩ := part 5 _ (by omega) rfl
  obtain ⟨a6, b6⟩ := part 6 _ (by omega) rfl
  obtain ⟨a7, b7⟩ := part 7 _ (by omega) rfl
  obtain ⟨a8, b8⟩ := part 8 _ (by omega) rfl
  rw [a0.val] at b0
  rw [a1.val] at b1
  rw [a2.val] at b2
  rw [a3.val] at b3
  rw [a4.val] at b4
  rw [a6.val] at b6
  obtain ⟨tp, tc, e5⟩ := a5.form
  obtain ⟨rp, rc, e7⟩ := a7.form
  obtain ⟨p, c, e8⟩ := a8.form
  rw [e5] at a5 b5
  rw [e7] at a7 b7
  rw [e8] at a8 b8
  exact ⟨b, o, tp, tc, rp, rc, p, c, rfl, hC, hb, fun w' hw => ⟨b0 w' hw, b1 w' hw, b2 w' hw, b3 w' hw, b4 w' hw, b5 w' hw, b6 w' hw, b7 w' hw, b8 w' hw⟩, a5.ts _ (Nat.le_refl _), a7.ts _ (Nat.le_refl _), a8⟩

/-- INDUCTION OVER TERMS IN MEMORY. -/
theorem tm_ind {w0 : World} {C : Nat → Prop} {motive : List Tm → Value → Prop}
    (step : ∀ (ts : List Tm) (q : Option Addr) (d : Nat), ts.length ≤ 9223372036854775807 →
      (∀ (j : Nat) (hj : j < ts.length), ∃ (b o : Nat) (tp : Option Addr) (tc : Nat) (rp : Option Addr) (rc : Nat) (p : Option Addr) (c : Nat), q = some ⟨b, o, none⟩ ∧ C b ∧ b < w0.heap.size ∧ (∀ w', Stays C w0 w' → At9 w' b (o + j * 9) ts[j] tp tc rp rc p c) ∧
        TM' w0 C ts[j] tp tc rp rc p c ∧ motive ts[j].args (.slice p ts[j].args.length c)) → motive ts (.slice q ts.length d)) :
    ∀ (m : Nat) {ts : List Tm} {v : Value}, nodesM ts ≤ m → DM w0 C (tmD ts) v → motive ts v
  | m, ts, v, hm, h => by
    obtain ⟨q, d, rfl⟩ := h.form
    refine step ts q d h.len.1 (fun j hj => ?_)
    obtain ⟨b, o, tp, tc, rp, rc, p, c, e, hC, hb, h9, hT⟩ := tm_part h j hj
    have hn := nodesM_at ts j hj
    rw [Tm.nodes_eq] at hn
    match m, hm with
    | 0, hm => omega
    | m + 1, hm => exact ⟨b, o, tp, tc, rp, rc, p, c, e, hC, hb, h9, hT, tm_ind step m (by omega) hT.args⟩
end Go.Proofs.YtdofjnjiandcbaaDoor
/- TmSz: The contract of the laws' szTermS and szTerm: what is left of a bound behind a term, or -1. -/
namespace Go.Proofs.YtdofjnjiandcbaaDoor
open Go Go.RowKit

mutual
/-- No name is longer than a string can be. -/
def Tm.fit : Tm → Prop
  | .mk _ a b _ _ _ ts => a.size ≤ 9223372036854775807 ∧ b.size ≤ 9223372036854775807 ∧ fitS ts
def fitS : List Tm → Prop
  | [] => True
  | t :: ts => t.fit ∧ fitS ts
end
theorem Tm.fit_eq (t : Tm) : t.fit ↔ t.name.size ≤ 9223372036854775807 ∧ t.other.size ≤ 9223372036854775807 ∧ fitS t.args := by cases t; simp [Tm.fit, Tm.name, Tm.other, Tm.args]
theorem fitS_at : ∀ (ts : List Tm) (j : Nat) (hj : j < ts.length), fitS ts → ts[j].fit
  | t :: ts, 0, _, h => h.1
  | t :: ts, j + 1, hj, h => fitS_at ts j (by simpa using hj) h.2
theorem fitS_of : ∀ (ts : List Tm), (∀ (j : Nat) (hj : j < ts.length), ts[j].fit) → fitS ts
  | [], _ => trivial
  | t :: ts, h => ⟨h 0 (by simp), fitS_of ts (fun j hj => h (j + 1) (by simpa using hj))⟩

/-- A term's box in a later world. -/
structure Bx9 (w : World) (b : Nat) (t : Tm) (tp : Option Addr) (tc : Nat) (rp : Option Addr) (rc : Nat) (p : Option Addr) (c : Nat) : Prop where
  kind : w.cell? ⟨b, 0, none⟩ = some (.int .i64 t.kind)
  name : w.cell? ⟨b, 1, none⟩ = some (.string t.name)
  other : w.cell? ⟨b, 2, none⟩ = some (.string t.other)
  n : w.cell? ⟨b, 3, none⟩ = some (.int .i64 t.n)
  tk : w.cell? ⟨b, 4, none⟩ = some (.int .i64 t.ty.kind)
  ta : w.cell? ⟨b, 5, none⟩ = some (.slice tp t.ty.args.length tc)
  rk : w.cell? ⟨b, 6, none⟩ = some (.int .i64 t.res.kind)
  ra : w.cell? ⟨b, 7, none⟩ = some (.slice rp t.res.args.length rc)
  args : w.cell? ⟨b, 8, none⟩ = some (.slice p t.args.length c)
abbrev tmC (t : Tm) (tp : Option Addr) (tc : Nat) (rp : Option Addr) (rc : Nat) (p : Option Addr) (c : Nat) : Array Value :=
  #[.int .i64 t.kind, .string t.name, .string t.other, .int .i64 t.n, .int .i64 t.ty.kind, .slice tp t.ty.args.length tc, .int .i64 t.res.kind, .slice rp t.res.args.length rc, .slice p t.args.length c]
theorem Bx9.of {w : World} {b : Nat} {t : Tm} {tp rp p : Option Addr} {tc rc c : Nat} {T : TypeId} (h : w.heap[b]? = some (.cells (tmC t tp tc rp rc p c) T (0, 0))) : Bx9 w b t tp tc rp rc p c := by
  have k : ∀ i, w.cell? ⟨b, i, none⟩ = (tmC t tp tc rp rc p c)[i]? := fun i => by simp [World.cell?, h]
  exact ⟨k 0, k 1, k 2, k 3, k 4, k 5, k 6, k 7, k 8⟩
theorem Bx9.lt {w : World} {b : Nat} {t : Tm} {tp rp p : Option Addr} {tc rc c : Nat} (h : Bx9 w b t tp tc rp rc p c) : b < w.heap.size := World.block_lt_of_cell? w _ h.kind
theorem Bx9.at {w w' : World} {b : Nat} {t : Tm} {tp rp p : Option Addr} {tc rc c : Nat} (h : Bx9 w b t tp tc rp rc p c) (hs : w'.heap[b]? = w.heap[b]?) : Bx9 w' b t tp tc rp rc p c := by
  have k : ∀ i, w'.cell? ⟨b, i, none⟩ = w.cell? ⟨b, i, none⟩ := fun i => World.cell?_of_block (a := ⟨b, i, none⟩) hs
  exact ⟨(k 0).trans h.kind, (k 1).trans h.name, (k 2).trans h.other, (k 3).trans h.n, (k 4).trans h.tk, (k 5).trans h.ta, (k 6).trans h.rk, (k 7).trans h.ra, (k 8).trans h.args⟩
theorem Bx9.keep {w w' : World} {b : Nat} {t : Tm} {tp rp p : Option Addr} {tc rc c : Nat} (h : Bx9 w b t tp tc rp rc p c) (hb : Below w.heap.size w w') : Bx9 w' b t tp tc rp rc p c := h.at (hb.block b h.lt)
theorem Bx9.new (w : World) (t : Tm) (tp : Option Addr) (tc : Nat) (rp : Option Addr) (rc : Nat) (p : Option Addr) (c : Nat) (T : TypeId) : Bx9 (w.alloc (.cells (tmC t tp tc rp rc p c) T)) w.heap.size t tp tc rp rc p c :=
  Bx9.of (T := T) (by show (w.heap.push _)[w.heap.size]? = _; simp)
theorem al_below (w : World) (o : Obj) : Below w.heap.size w (w.alloc o) := (Below.refl _ w).alloc (Nat.le_refl _) o

set_option maxRecDepth 100000 in
set_option maxHeartbeats 2000000 in
theorem szM_of {C : Nat → Prop} {t : Tm} {tp rp p : Option Addr} {tc rc c : Nat} {w : World} (left : Int) (h0 : 0 ≤ left) (hl : left ≤ 1048576) (hT : TM' w C t tp tc rp rc p c) (hf : t.fit)
    (h : ∀ (w' : World) (l : Int), Below w.heap.size w w' → 0 ≤ l → l ≤ left → Calls Tryd.prog 13 #[.slice p t.args.length c, .int .i64 l] w' (IntRet (SzEnds l (wtS t.args)) w')) :
    Calls Tryd.prog 5 #[tmV t tp tc rp rc p c, .int .i64 left] w (IntRet (SzEnds left t.wt) w) := by
  have HH := Lib.hid h
  have HT := Lib.hid hT
  have HB0 := Lib.hid (al_below w (.cells (tmC t tp tc rp rc p c) 27))
  have HX0 := Lib.hid (Bx9.new w t tp tc rp rc p c 27)
  have HW := Lib.hid t.wt_eq
  obtain ⟨f1, f2, _⟩ := (Tm.fit_eq t).1 hf
  clear h hT hf
  go_enter Tryd.func5, Tryd.ntmps5
  by_cases c1 : left - (t.name.size : Int) < 0
  · go_wp2_with fail
    go_ret
    exact ⟨_, Or.inr ⟨rfl, by have := HW.out; omega⟩, rfl, HB0.out⟩
  by_cases c2 : left - (t.name.size : Int) - (t.other.size : Int) < 0
  · go_wp2_with fail
    go_ret
    exact ⟨_, Or.inr ⟨rfl, by have := HW.out; omega⟩, rfl, HB0.out⟩
  have HC3 := Lib.hid (szT_any (C := C) (t := t.ty) (v := .agg #[.int .i64 t.ty.kind, .slice tp t.ty.args.length tc]) ⟨_, rfl, HT.out.ty.keep HB0.out⟩ (left - (t.name.size : Int) - (t.other.size : Int)) (by omega) (by omega))
  go_wp2_with fail
  refine HC3.out.mono ?_
  rintro e w3 ⟨r3, hr3, rfl, hb3⟩
  have rg3 := hr3.range (by omega)
  have HR3 := Lib.hid hr3
  have HB3 := Lib.hid (HB0.out.trans (hb3.mono HB0.out.size))
  have hx3 := HX0.out.keep hb3
  obtain ⟨_, _, _, _, g4, g5, g6, g7, g8⟩ := hx3
  have HX3 := Lib.hid (HX0.out.keep hb3)
  clear hr3 hb3 HC3
  by_cases c3 : r3 < 0
  · go_wp2_with fail
    go_ret
    exact ⟨_, Or.inr ⟨rfl, by have := HW.out; have := HR3.out; unfold SzEnds at this; omega⟩, rfl, HB3.out⟩
  have HC4 := Lib.hid (szT_any (C := C) (t := t.res) (v := .agg #[.int .i64 t.res.kind, .slice rp t.res.args.length rc]) ⟨_, rfl, HT.out.res.keep HB3.out⟩ r3 (by omega) (by omega))
  go_wp2_with fail
  refine HC4.out.mono ?_
  rintro e w4 ⟨r4, hr4, rfl, hb4⟩
  have rg4 := hr4.range (by omega)
  have HR4 := Lib.hid hr4
  have HB4 := Lib.hid (HB3.out.trans (hb4.mono HB3.out.size))
  have hx4 := HX3.out.keep hb4
  clear g4 g5 g6 g7 g8
  obtain ⟨_, _, _, _, _, _, _, _, g8⟩ := hx4
  clear hr4 hb4 HC4
  by_cases c4 : r4 < 0
  · go_wp2_with fail
    go_ret
    exact ⟨_, Or.inr ⟨rfl, by have := HW.out; have := HR3.out; have := HR4.out; unfold SzEnds at *; omega⟩, rfl, HB4.out⟩
  have HC5 := Lib.hid (HH.out w4 r4 HB4.out (by omega) (by omega))
  go_wp2_with fail
  refine HC5.out.mono ?_
  rintro e w5 ⟨r5, hr5, rfl, hb5⟩
  have rg5 := hr5.range (by omega)
  have HR5 := Lib.hid hr5
  have HB5 := Lib.hid (HB4.out.trans (hb5.mono HB4.out.size))
  clear hr5 hb5 HC5
  by_cases c5 : r5 < 0
  · go_wp2_with fail
    go_ret
    exact ⟨_, by have := HW.out; have := HR3.out; have := HR4.out; have := HR5.out; unfold SzEnds at *; omega, rfl, HB5.out⟩
  · go_wp2_with fail
    go_ret
    exact ⟨_, by have := HW.out; have := HR3.out; have := HR4.out; have := HR5.out; unfold SzEnds at *; omega, rfl, HB5.out⟩

/-- k terms have been counted: L is left. -/
def LeftM (left : Int) (ts : List Tm) (k : Nat) (L : Int) : Prop := L + ts.length + (wtS (ts.take k) - k : Nat) = left
theorem wtS_take_ge (ts : List Tm) (k : Nat) (h : k ≤ ts.length) : k ≤ wtS (ts.take k) := by
  have := wtS_ge (ts.take k)
  rw [List.length_take] at this
  omega
theorem leftM_next {left : Int} {ts : List Tm} {k : Nat} {L r : Int} (h : LeftM left ts k L) (hk : k < ts.length) (hr : SzEnds L ts[k].wt r) (h0 : 0 ≤ r) : LeftM left ts (k + 1) r := by
  have h1 := wtS_take ts k hk
  have h2 := wtS_take_ge ts k (Nat.le_of_lt hk)
  unfold LeftM SzEnds at *
  omega
theorem leftM_over {left : Int} {ts : List Tm} {k : Nat} {L r : Int} (h : LeftM left ts k L) (hk : k < ts.length) (hr : SzEnds L ts[k].wt r) (h0 : r < 0) : SzEnds left (wtS ts) (-1) := by
  have h1 := wtS_take ts k hk
  have h2 := wtS_take_ge ts k (Nat.le_of_lt hk)
  have h3 := wtS_append (ts.take (k + 1)) (ts.drop (k + 1))
  rw [List.take_append_drop] at h3
  have h4 := wtS_ge (ts.drop (k + 1))
  rw [List.length_drop] at h4
  unfold LeftM SzEnds at *
  omega
theorem leftM_end {left : Int} {ts : List Tm} {L : Int} (h : LeftM left ts ts.length L) (h0 : 0 ≤ L) : SzEnds left (wtS ts) L := by
  have h2 := wtS_ge ts
  unfold LeftM at h
  rw [List.take_length] at h
  unfold SzEnds
  omega

set_option maxRecDepth 100000 in
set_option maxHeartbeats 1000000 in
theorem szMS_any {w0 : World} {C : Nat → Prop} {ts : List Tm} {v : Value} (h : DM w0 C (tmD ts) v) : ∀ (w : World) (left : Int), Stays C w0 w → 0 ≤ left → left ≤ 1048576 → fitS ts →
    Calls Tryd.prog 13 #[v, .int .i64 left] w (IntRet (SzEnds left (wtS ts)) w) := by
  refine tm_ind (motive := fun ts v => ∀ (w : World) (left : Int), Stays C w0 w → 0 ≤ left → left ≤ 1048576 → fitS ts → Calls Tryd.prog 13 #[v, .int .i64 left] w (IntRet (SzEnds left (wtS ts)) w)) ?_ _ (Nat.le_refl _) h
  intro ts q d hlen H w left hst h0 hl hfit
  have HH := Lib.hid H
  have HST := Lib.hid hst
  have HF := Lib.hid hfit
  clear H hst hfit
  go_enter Tryd.func13, Tryd.ntmps13
  by_cases hbig : left - (ts.length : Int) < 0
  · go_wp2_with fail
    go_ret
    exact ⟨_, Or.inr ⟨rfl, by have := wtS_ge ts; omega⟩, rfl, Below.refl _ _⟩
  · go_wp2_with fail
    go_loopw [1, 5] (fun l i wr => ∃ (k : Nat) (L : Int), k ≤ ts.length ∧ 0 ≤ L ∧ L ≤ left ∧ i = .int .i64 k ∧ l = .int .i64 L ∧ LeftM left ts k L ∧ Below w.heap.size w wr) (fun _ i _ => ts.length - (intOf i).toNat)
    case atStart => exact ⟨0, _, Nat.zero_le _, by omega, by omega, rfl, rfl, by unfold LeftM; simp [wtS], Below.refl _ _⟩
    case round =>
      obtain ⟨k, L, hk, hL0, hL1, rfl, rfl, hat, hbr⟩ := hrel
      have HA := Lib.hid hat
      have HB := Lib.hid hbr
      have HSR := Lib.hid (HST.out.trans (Stays.of_below (C := C) hbr))
      clear hat hbr
      by_cases hlk : k < ts.length
      · obtain ⟨b, o, tp, tc, rp, rc, p, c, rfl, hC, hb, h9, hT, hI⟩ := HH.out k hlk
        obtain ⟨g0, g1, g2, g3, g4, g5, g6, g7, g8⟩ := h9 wr HSR.out
        have hfk := fitS_at ts k hlk HF.out
        have HC := Lib.hid (szM_of (C := C) L hL0 (by omega) (hT.stays HSR.out) hfk (fun w' l hw' hl0 hl1 => hI w' l (HSR.out.trans (.of_below hw')) hl0 (by omega) ((Tm.fit_eq _).1 hfk).2.2))
        have i0 : (0 : Int) ≤ (k : Int) := Int.natCast_nonneg _
        have i1 : (k : Int) < (ts.length : Int) := by omega
        clear hC hb h9 hT hI hfk
        go_wp2_with fail
        refine HC.out.mono ?_
        rintro e w1 ⟨r, hr, rfl, hb1⟩
        have hrg := hr.range hL0
        have HR := Lib.hid hr
        have HB1 := Lib.hid (HB.out.trans (hb1.mono HB.out.size))
        clear hr hb1
        by_cases hneg : r < 0
        · go_wp2_with fail
          go_ret
          exact ⟨_, leftM_over HA.out hlk HR.out hneg, rfl, HB1.out⟩
        · go_wp2_with fail
          go_roundw
          case rel => exact ⟨k + 1, r, by omega, by omega, by omega, by go_num, rfl, leftM_next HA.out hlk HR.out (by omega), HB1.out⟩
          case measure => simp [intOf]; omega
      · obtain rfl : k = ts.length := by omega
        go_wp2_with fail
        go_ret
        exact ⟨_, leftM_end HA.out hL0, rfl, HB.out⟩
/-- THE LAWS' szTerm, AT EVERY TERM. -/
theorem szM_any {C : Nat → Prop} {t : Tm} {v : Value} {w : World} (h : TM w C t v) (hf : t.fit) (left : Int) (h0 : 0 ≤ left) (hl : left ≤ 1048576) :
    Calls Tryd.prog 5 #[v, .int .i64 left] w (IntRet (SzEnds left t.wt) w) := by
  obtain ⟨tp, tc, rp, rc, p, c, rfl, hT⟩ := h
  exact szM_of left h0 hl hT hf (fun w' l hb hl0 hl1 => szMS_any hT.args w' l (.of_below hb) hl0 (by omega) ((Tm.fit_eq t).1 hf).2.2)
#print axioms szM_any
end Go.Proofs.YtdofjnjiandcbaaDoor
/- OpenM: An argument that is a term, opened: the tree that it reads as. -/
namespace Go.Proofs.YtdofjnjiandcbaaDoor
open Go Go.ChangeShapes Go.WideShapes Go.RowKit

theorem cells_tm : Tryd.prog.cellsOf 27 = 9 := by kernel_rfl
theorem cells_str : Tryd.prog.cellsOf 9 = 1 := by kernel_rfl
theorem cells_slm : Tryd.prog.cellsOf 25 = 1 := by kernel_rfl

section
variable {H : Type} {enc : TypeId × Value → H} {w : World} {spare : Nat → Bool} {held : Bool}

theorem cell_of_cells9 {a : Addr} {cs : List Value} {base i : Nat} (h : w.cells? base (a.add (i * 9)) 9 = some cs) : cs.length = 9 ∧ ∀ j, j < 9 → w.cell? (a.add (i * 9 + j)) = cs[j]? := by
  unfold World.cells? at h
  split at h
  · have e : (List.range 9) = [0, 1, 2, 3, 4, 5, 6, 7, 8] := rfl
    rw [e] at h
    simp only [List.mapM_cons, List.mapM_nil, Option.bind_eq_bind, Option.bind_eq_some_iff, Option.pure_def, Option.some.injEq] at h
    obtain ⟨v0, h0, _, ⟨v1, h1, _, ⟨v2, h2, _, ⟨v3, h3, _, ⟨v4, h4, _, ⟨v5, h5, _, ⟨v6, h6, _, ⟨v7, h7, _, ⟨v8, h8, _, rfl, rfl⟩, rfl⟩, rfl⟩, rfl⟩, rfl⟩, rfl⟩, rfl⟩, rfl⟩, rfl⟩ := h
    rw [Go.Deep.add_add] at h0 h1 h2 h3 h4 h5 h6 h7 h8
    refine ⟨rfl, fun j hj => ?_⟩
    match j, hj with
    | 0, _ => exact h0
    | 1, _ => exact h1
    | 2, _ => exact h2
    | 3, _ => exact h3
    | 4, _ => exact h4
    | 5, _ => exact h5
    | 6, _ => exact h6
    | 7, _ => exact h7
    | 8, _ => exact h8
    | n + 9, hj => omega
  · cases h

set_option maxRecDepth 100000 in
set_option maxHeartbeats 2000000 in
/-- What a term's nine cells read as; what a slice of terms reads as. -/
theorem open_tm : ∀ (fuel : Nat), (∀ (cs : List Value) (x : DataW H × List MemPlace), DataW.trod enc Tryd.prog w 0 spare held fuel 27 cs = some x → ∃ (t : Tm) (tp : Option Addr) (tc : Nat) (rp : Option Addr) (rc : Nat) (p : Option Addr) (c : Nat),
      cs = (tmC t tp tc rp rc p c).toList ∧ TM' w (fun _ => True) t tp tc rp rc p c ∧ t.fit) ∧
    (∀ (cs : List Value) (x : DataW H × List MemPlace), DataW.trod enc Tryd.prog w 0 spare held fuel 25 cs = some x → ∃ (s : Value) (ts : List Tm), cs = [s] ∧ DM w (fun _ => True) (tmD ts) s ∧ fitS ts) := by
  intro fuel
  induction fuel using Nat.strongRecOn with
  | _ fuel IH =>
    constructor
    · intro cs x h
      obtain ⟨xs, n, hn, _, hl, hlen, hf⟩ := DataW.trod_struct Tryd.underlying27 h
      rw [cells_tm] at hl
      have g0 : DataW.trod enc Tryd.prog w 0 spare held n 3 ((cs.drop 0).take (Tryd.prog.cellsOf 3)) = xs[0]? := hf 0 _ rfl
      have g1 : DataW.trod enc Tryd.prog w 0 spare held n 9 ((cs.drop 1).take (Tryd.prog.cellsOf 9)) = xs[1]? := hf 1 _ rfl
      have g2 : DataW.trod enc Tryd.prog w 0 spare held n 9 ((cs.drop 2).take (Tryd.prog.cellsOf 9)) = xs[2]? := hf 2 _ rfl
      have g3 : DataW.trod enc Tryd.prog w 0 spare held n 3 ((cs.drop 3).take (Tryd.prog.cellsOf 3)) = xs[3]? := hf 3 _ rfl
      have g4 : DataW.trod enc Tryd.prog w 0 spare held n 24 ((cs.drop 4).take (Tryd.prog.cellsOf 24)) = xs[4]? := hf 4 _ rfl
      have g5 : DataW.trod enc Tryd.prog w 0 spare held n 24 ((cs.drop 6).take (Tryd.prog.cellsOf 24)) = xs[5]? := hf 5 _ rfl
      have g6 : DataW.trod enc Tryd.prog w 0 spare held n 25 ((cs.drop 8).take (Tryd.prog.cellsOf 25)) = xs[6]? := hf 6 _ rfl
      rw [cells_int] at g0 g3
      rw [cells_str] at g1 g2
      rw [cells_ty] at g4 g5
      rw [cells_slm] at g6
      match cs, hl, xs, hlen with
      | [c0, c1, c2, c3, c4, c5, c6, c7, c8], _, [y0, y1, y2, y3, y4, y5, y6], _ =>
        obtain ⟨k, hk, _, _⟩ := DataW.trod_int Tryd.underlying3 g0
        obtain ⟨sa, ha, _, za⟩ := DataW.trod_string Tryd.underlying9 g1
        obtain ⟨sb, hb, _, zb⟩ := DataW.trod_string Tryd.underlying9 g2
        obtain ⟨nn, hnn, _, _⟩ := DataW.trod_int Tryd.underlying3 g3
        obtain ⟨kt, st, tts, hst, htt⟩ := (open_ty n).1 _ _ g4
        obtain ⟨kr, sr, rts, hsr, hrt⟩ := (open_ty n).1 _ _ g5
        obtain ⟨s, ts, hs, ht, hfit⟩ := (IH n (by omega)).2 _ _ g6
        simp only [List.drop_zero, List.drop_succ_cons, List.take_succ_cons, List.take_zero, List.cons.injEq, and_true] at hk ha hb hnn hst hsr hs
        obtain ⟨rfl, rfl⟩ := hst
        obtain ⟨rfl, rfl⟩ := hsr
        subst hk ha hb hnn hs
        obtain ⟨tp, tc, rfl⟩ := htt.form
        obtain ⟨rp, rc, rfl⟩ := hrt.form
        obtain ⟨p, c, rfl⟩ := ht.form
        exact ⟨.mk k sa sb nn (.mk kt tts) (.mk kr rts) ts, tp, tc, rp, rc, p, c, rfl, ⟨htt, hrt, ht⟩, (Tm.fit_eq _).2 ⟨za, zb, hfit⟩⟩
    · intro cs x h
      rcases DataW.trod_slice Tryd.underlying25 h with ⟨rfl, _⟩ | ⟨a, len, cap, elems, rest, n, hn, rfl, _, _, hl, hm, hlen, hel, _, _⟩
      · exact ⟨_, [], rfl, .nil _ _ _ _, trivial⟩
      · by_cases h0 : len = 0
        · subst h0
          exact ⟨_, [], rfl, .nil _ _ _ _, trivial⟩
        rw [cells_tm] at hel
        have each : ∀ i, i < len → ∃ z : Tm, (∃ (tp : Option Addr) (tc : Nat) (rp : Option Addr) (rc : Nat) (p : Option Addr) (c : Nat),
            (∀ j, j < 9 → w.cell? (a.add (i * 9 + j)) = (tmC z tp tc rp rc p c).toList[j]?) ∧ TM' w (fun _ => True) z tp tc rp rc p c) ∧ z.fit := by
          intro i hi
          have hb := hel i hi
          rw [List.getElem?_eq_getElem (by omega), Option.bind_eq_some_iff] at hb
          obtain ⟨cs', hcs, ht⟩ := hb
          obtain ⟨t, tp, tc, rp, rc, p, c, rfl, hT, hft⟩ := (IH n (by omega)).1 _ _ ht
          exact ⟨t, ⟨tp, tc, rp, rc, p, c, (cell_of_cells9 hcs).2, hT⟩, hft⟩
        haveI : Inhabited Tm := ⟨.mk 0 .empty .empty 0 (.mk 0 []) (.mk 0 []) []⟩
        obtain ⟨f, hf⟩ := Go.Deep.choose_lt (α := Tm) each
        have hspot : a.spot = none := by
          obtain ⟨⟨_, _, _, _, _, _, h9, _⟩, _⟩ := hf 0 (by omega)
          have := h9 0 (by omega)
          simp only [Nat.zero_mul, Nat.zero_add] at this
          simpa [Addr.add] using World.cell?_spot this
        obtain ⟨b, o, sp⟩ := a
        simp only at hspot
        subst hspot
        simp only [Go.WideShapes.add_plain] at hf
        have hb : b < w.heap.size := by
          obtain ⟨⟨_, _, _, _, _, _, h9, _⟩, _⟩ := hf 0 (by omega)
          exact World.block_lt_of_cell? w _ (h9 0 (by omega))
        let ts := (List.range len).map fun i => f i
        have hts : ts.length = len := by simp [ts]
        have at_ : ∀ j (hj : j < ts.length), ts[j] = f j := by
          intro j hj
          simp [ts]
        -- every cell of the row is there and holds what its term asks
        have cell : ∀ (i : Nat) (d : D), (flatTm ts)[i]? = some d → ∃ v, w.cell? ⟨b, o + i, none⟩ = some v ∧ DM w (fun _ => True) d v := by
          intro i d hd
          have hi : i < ts.length * 9 := by
            rw [← flatTm_len]
            exact (List.getElem?_eq_some_iff.1 hd).1
          obtain ⟨j, k, hj, hk, rfl⟩ : ∃ j k, j < ts.length ∧ k < 9 ∧ i = j * 9 + k := ⟨i / 9, i % 9, by omega, by omega, by omega⟩
          rw [flatTm_at ts j k hj hk, Tm.ds_eq, at_ j hj] at hd
          obtain ⟨⟨tp, tc, rp, rc, p, c, h9, hT⟩, _⟩ := hf j (by omega)
          have h := h9 k hk
          match k, hk with
          | 0, _ => cases hd; exact ⟨_, h, .cell _⟩
          | 1, _ => cases hd; exact ⟨_, h, .cell _⟩
          | 2, _ => cases hd; exact ⟨_, h, .cell _⟩
          | 3, _ => cases hd; exact ⟨_, h, .cell _⟩
          | 4, _ => cases hd; exact ⟨_, h, .cell _⟩
          | 5, _ => cases hd; exact ⟨_, h, hT.ty.dm⟩
          | 6, _ => cases hd; exact ⟨_, h, .cell _⟩
          | 7, _ => cases hd; exact ⟨_, h, hT.res.dm⟩
          | 8, _ => cases hd; exact ⟨_, h, hT.args⟩
          | n + 9, hk => omega
        have pick : ∀ i, i < ts.length * 9 → ∃ v : Value, w.cell? ⟨b, o + i, none⟩ = some v ∧ ∀ d, (flatTm ts)[i]? = some d → DM w (fun _ => True) d v := by
          intro i hi
          obtain ⟨v, h1, h2⟩ := cell i _ (List.getElem?_eq_getElem (by rw [flatTm_len]; exact hi))
          refine ⟨v, h1, fun d hd => ?_⟩
          rw [List.getElem?_eq_getElem (by rw [flatTm_len]; exact hi)] at hd
          exact (Option.some.inj hd) ▸ h2
        haveI : Inhabited Value := ⟨.int .i64 0⟩
        obtain ⟨V, hV⟩ := Go.Deep.choose_lt (α := Value) pick
        refine ⟨_, ts, rfl, ?_, fitS_of ts fun j hj => ?_⟩
        · have key := DM.rows (w := w) (C := fun _ => True) (T := 35) (k := 9) (n := ts.length) (b := b) (o := o) (c := cap) (ds := flatTm ts) V (by omega) (by omega) (by unfold maxLen at hm; omega) (flatTm_len ts) trivial hb
            (fun i d hd => (hV i (by rw [← flatTm_len]; exact (List.getElem?_eq_some_iff.1 hd).1)).1) (fun i d hd => (hV i (by rw [← flatTm_len]; exact (List.getElem?_eq_some_iff.1 hd).1)).2 d hd)
          rw [hts] at key
          show DM w _ (.rows _ 9 ts.length (flatTm ts)) _
          rw [hts]
          exact key
        · rw [at_ j hj]
          exact (hf j (by omega)).2
end

set_option maxRecDepth 100000 in
/-- THE ARGUMENT OPENED. -/
theorem open_term {H : Type} {enc : TypeId × Value → H} {W : World} {spare : Nat → Bool} {held : Bool} {r : Reach} {b0 : Nat} {v : Value} {d : DataW H} {p : List MemPlace}
    (hv : Value.okWide Tryd.prog W r b0 27 v) (h : DataW.Trod enc Tryd.prog W 0 spare held 27 v d p) : ∃ t : Tm, TM W (fun _ => True) t v ∧ t.fit := by
  obtain ⟨cs, rfl, hsz⟩ := okWide_struct Tryd.underlying27 hv
  obtain ⟨fuel, hf⟩ := h
  obtain ⟨t, tp, tc, rp, rc, p, c, hcs, ht, hfit⟩ := (open_tm fuel).1 _ _ hf
  have hcs' : cs = tmC t tp tc rp rc p c := by
    have : cs.toList = (tmC t tp tc rp rc p c).toList := hcs
    exact Array.toList_inj.1 this
  subst hcs'
  exact ⟨t, ⟨tp, tc, rp, rc, p, c, rfl, ht⟩, hfit⟩
end Go.Proofs.YtdofjnjiandcbaaDoor
/- StrEq: Comparing strings, of no program: what the walk's test says. -/
namespace Go.Proofs.YtdofjnjiandcbaaDoor
open Go

theorem str_inj {a b : ByteArray} (h : a.toList = b.toList) : a = b := by
  rw [ByteArray.toList_eq, ByteArray.toList_eq] at h
  obtain ⟨⟨a⟩⟩ := a
  obtain ⟨⟨b⟩⟩ := b
  rw [show a = b from h]
theorem str_yes {a b : ByteArray} (h : a = b) : (a.toList == b.toList) = true := by rw [h]; simp
theorem str_no {a b : ByteArray} (h : ¬ a = b) : (a.toList == b.toList) = false := by
  rw [beq_eq_false_iff_ne]
  exact fun hc => h (str_inj hc)
end Go.Proofs.YtdofjnjiandcbaaDoor
/- TmEq: The contract of the laws' eqTermS and eqTerm: whether two terms are the same. -/
namespace Go.Proofs.YtdofjnjiandcbaaDoor
open Go Go.RowKit

set_option maxRecDepth 100000 in
set_option maxHeartbeats 2000000 in
theorem eqM_of {C C' : Nat → Prop} {t u : Tm} {tp rp p tp' rp' p' : Option Addr} {tc rc c tc' rc' c' : Nat} {w : World} (hT : TM' w C t tp tc rp rc p c) (hU : TM' w C' u tp' tc' rp' rc' p' c')
    (h : ∀ (w' : World), Below w.heap.size w w' → Calls Tryd.prog 23 #[.slice p t.args.length c, .slice p' u.args.length c'] w' (BoolRet (fun b => b = true ↔ t.args = u.args) w')) :
    Calls Tryd.prog 9 #[tmV t tp tc rp rc p c, tmV u tp' tc' rp' rc' p' c'] w (BoolRet (fun b => b = true ↔ t = u) w) := by
  have HH := Lib.hid h
  have HT := Lib.hid hT
  have HU := Lib.hid hU
  have hb1 := al_below w (.cells (tmC t tp tc rp rc p c) 35)
  have hb2 := al_below (w.alloc (.cells (tmC t tp tc rp rc p c) 35)) (.cells (tmC u tp' tc' rp' rc' p' c') 35)
  have hx2 := Bx9.new (w.alloc (.cells (tmC t tp tc rp rc p c) 35)) u tp' tc' rp' rc' p' c' 35
  rw [World.size_alloc] at hx2
  have HX1 := Lib.hid ((Bx9.new w t tp tc rp rc p c 35).keep hb2)
  have HX2 := Lib.hid hx2
  have HB0 := Lib.hid (hb1.trans (hb2.mono (by simp)))
  clear h hT hU hb1 hb2 hx2
  go_enter Tryd.func9, Tryd.ntmps9
  by_cases hk : t.kind = u.kind
  rotate_left
  · go_wp2_with fail
    go_ret
    exact ⟨false, by simp; exact fun e => hk (by rw [e]), rfl, HB0.out⟩
  have hk1 : t.kind ≤ u.kind := by omega
  have hk2 : u.kind ≤ t.kind := by omega
  have HK := Lib.hid hk
  clear hk
  by_cases hn : t.name = u.name
  rotate_left
  · have hn1 := str_no hn
    have HN := Lib.hid hn
    clear hn
    go_wp2_with fail
    go_ret
    exact ⟨false, by simp; exact fun e => HN.out (by rw [e]), rfl, HB0.out⟩
  have hn1 := str_yes hn
  have HN := Lib.hid hn
  clear hn
  by_cases ho : t.other = u.other
  rotate_left
  · have ho1 := str_no ho
    have HO := Lib.hid ho
    clear ho
    go_wp2_with fail
    go_ret
    exact ⟨false, by simp; exact fun e => HO.out (by rw [e]), rfl, HB0.out⟩
  have ho1 := str_yes ho
  have HO := Lib.hid ho
  clear ho
  by_cases hi : t.n = u.n
  rotate_left
  · go_wp2_with fail
    go_ret
    exact ⟨false, by simp; exact fun e => hi (by rw [e]), rfl, HB0.out⟩
  have HC3 := Lib.hid (eqT_any (C := C) (C' := C') (t := t.ty) (u := u.ty) (v := .agg #[.int .i64 t.ty.kind, .slice tp t.ty.args.length tc]) (x := .agg #[.int .i64 u.ty.kind, .slice tp' u.ty.args.length tc']) ⟨_, rfl, HT.out.ty.stays (.of_below HB0.out)⟩ ⟨_, rfl, HU.out.ty.stays (.of_below HB0.out)⟩)
  have hi1 : t.n ≤ u.n := by omega
  have hi2 : u.n ≤ t.n := by omega
  have HI := Lib.hid hi
  clear hi
  go_wp2_with fail
  refine HC3.out.mono ?_
  rintro e w3 ⟨r3, hr3, rfl, hb3⟩
  have HR3 := Lib.hid hr3
  have HB3 := Lib.hid (HB0.out.trans (hb3.mono HB0.out.size))
  have HX13 := Lib.hid (HX1.out.keep hb3)
  have HX23 := Lib.hid (HX2.out.keep hb3)
  obtain ⟨_, _, _, _, _, _, g6, g7, _⟩ := HX1.out.keep hb3
  obtain ⟨_, _, _, _, _, _, d6, d7, _⟩ := HX2.out.keep hb3
  clear hr3 hb3 HC3
  cases r3
  · go_wp2_with fail
    go_ret
    exact ⟨false, by simp; exact fun e => (by have := HR3.out.2 (by rw [e]); cases this), rfl, HB3.out⟩
  have HC4 := Lib.hid (eqT_any (C := C) (C' := C') (t := t.res) (u := u.res) (v := .agg #[.int .i64 t.res.kind, .slice rp t.res.args.length rc]) (x := .agg #[.int .i64 u.res.kind, .slice rp' u.res.args.length rc']) ⟨_, rfl, HT.out.res.stays (.of_below HB3.out)⟩ ⟨_, rfl, HU.out.res.stays (.of_below HB3.out)⟩)
  go_wp2_with fail
  refine HC4.out.mono ?_
  rintro e w4 ⟨r4, hr4, rfl, hb4⟩
  have HR4 := Lib.hid hr4
  have HB4 := Lib.hid (HB3.out.trans (hb4.mono HB3.out.size))
  clear g6 g7 d6 d7
  obtain ⟨_, _, _, _, _, _, _, _, g8⟩ := HX13.out.keep hb4
  obtain ⟨_, _, _, _, _, _, _, _, d8⟩ := HX23.out.keep hb4
  clear hr4 hb4 HC4
  cases r4
  · go_wp2_with fail
    go_ret
    exact ⟨false, by simp; exact fun e => (by have := HR4.out.2 (by rw [e]); cases this), rfl, HB4.out⟩
  have HC5 := Lib.hid (HH.out w4 HB4.out)
  go_wp2_with fail
  refine HC5.out.mono ?_
  rintro e w5 ⟨r5, hr5, rfl, hb5⟩
  have HR5 := Lib.hid hr5
  have HB5 := Lib.hid (HB4.out.trans (hb5.mono HB4.out.size))
  clear hr5 hb5 HC5
  cases r5
  · go_wp2_with fail
    go_ret
    exact ⟨false, by simp; exact fun e => (by have := HR5.out.2 (by rw [e]); cases this), rfl, HB5.out⟩
  · go_wp2_with fail
    go_ret
    exact ⟨true, by simp only [true_iff]; exact Tm.ext' HK.out HN.out HO.out HI.out (by simpa using HR3.out) (by simpa using HR4.out) (by simpa using HR5.out), rfl, HB5.out⟩

theorem keepN {W w1 : World} {p : Addr} {v : Value} (hb1 : Below W.heap.size W w1) (h : W.cell? p = some v) : w1.cell? p = some v := (hb1.cell (World.block_lt_of_cell? W _ h)).trans h
theorem keep18 {w W w1 : World} {p0 p1 p2 p3 p4 p5 p6 p7 p8 p9 p10 p11 p12 p13 p14 p15 p16 p17 : Addr} {v0 v1 v2 v3 v4 v5 v6 v7 v8 v9 v10 v11 v12 v13 v14 v15 v16 v17 : Value} (hb1 : Below W.heap.size W w1) (h : W.cell? p0 = some v0 ∧ W.cell? p1 = some v1 ∧ W.cell? p2 = some v2 ∧ W.cell? p3 = some v3 ∧ W.cell? p4 = some v4 ∧ W.cell? p5 = some v5 ∧ W.cell? p6 = some v6 ∧ W.cell? p7 = some v7 ∧ W.cell? p8 = some v8 ∧ W.cell? p9 = some v9 ∧ W.cell? p10 = some v10 ∧ W.cell? p11 = some v11 ∧ W.cell? p12 = some v12 ∧ W.cell? p13 = some v13 ∧ W.cell? p14 = some v14 ∧ W.cell? p15 = some v15 ∧ W.cell? p16 = some v16 ∧ W.cell? p17 = some v17 ∧ Below w.heap.size w W) : w1.cell? p0 = some v0 ∧ w1.cell? p1 = some v1 ∧ w1.cell? p2 = some v2 ∧ w1.cell? p3 = some v3 ∧ w1.cell? p4 = some v4 ∧ w1.cell? p5 = some v5 ∧ w1.cell? p6 = some v6 ∧ w1.cell? p7 = some v7 ∧ w1.cell? p8 = some v8 ∧ w1.cell? p9 = some v9 ∧ w1.cell? p10 = some v10 ∧ w1.cell? p11 = some v11 ∧ w1.cell? p12 = some v12 ∧ w1.cell? p13 = some v13 ∧ w1.cell? p14 = some v14 ∧ w1.cell? p15 = some v15 ∧ w1.cell? p16 = some v16 ∧ w1.cell? p17 = some v17 ∧ Below w.heap.size w w1 := by
  obtain ⟨h0, h1, h2, h3, h4, h5, h6, h7, h8, h9, h10, h11, h12, h13, h14, h15, h16, h17, hz⟩ := h
  exact ⟨keepN hb1 h0, keepN hb1 h1, keepN hb1 h2, keepN hb1 h3, keepN hb1 h4, keepN hb1 h5, keepN hb1 h6, keepN hb1 h7, keepN hb1 h8, keepN hb1 h9, keepN hb1 h10, keepN hb1 h11, keepN hb1 h12, keepN hb1 h13, keepN hb1 h14, keepN hb1 h15, keepN hb1 h16, keepN hb1 h17, hz.trans (hb1.mono hz.size)⟩

theorem tm_take_eq {ts us : List Tm} {k : Nat} (h : ts.take k = us.take k) (h1 : k < ts.length) (h2 : k < us.length) (he : ts[k] = us[k]) : ts.take (k + 1) = us.take (k + 1) := by
  rw [List.take_add_one, List.take_add_one, h, List.getElem?_eq_getElem h1, List.getElem?_eq_getElem h2, he]
theorem tm_ne_at {ts us : List Tm} {k : Nat} (h1 : k < ts.length) (h2 : k < us.length) (hn : ¬ ts[k] = us[k]) : ts ≠ us := by
  intro e; subst e; exact hn rfl

set_option maxRecDepth 100000 in
set_option maxHeartbeats 2000000 in
theorem eqMS_any {w0 : World} {C : Nat → Prop} {ts : List Tm} {v : Value} (h : DM w0 C (tmD ts) v) : ∀ (w : World) (C' : Nat → Prop) (us : List Tm) (u : Value), Stays C w0 w → DM w C' (tmD us) u →
    Calls Tryd.prog 23 #[v, u] w (BoolRet (fun b => b = true ↔ ts = us) w) := by
  refine tm_ind (motive := fun ts v => ∀ (w : World) (C' : Nat → Prop) (us : List Tm) (u : Value), Stays C w0 w → DM w C' (tmD us) u → Calls Tryd.prog 23 #[v, u] w (BoolRet (fun b => b = true ↔ ts = us) w)) ?_ _ (Nat.le_refl _) h
  intro ts q d hlen0 H w C' us u hst hu
  obtain ⟨q', d', rfl⟩ := hu.form
  have hlen' := hu.len.1
  have HH := Lib.hid H
  have HST := Lib.hid hst
  have HU := Lib.hid hu
  clear H hst hu
  go_enter Tryd.func23, Tryd.ntmps23
  by_cases hlen : ts.length = us.length
  rotate_left
  · have hne : ¬ (ts = us) := fun e => hlen (by rw [e])
    have HN := Lib.hid hne
    clear hne
    go_wp2_with fail
    go_ret
    exact ⟨false, by simpa using HN.out, rfl, Below.refl _ _⟩
  have HL := Lib.hid hlen
  rw [← hlen]
  clear hlen
  go_wp2_with fail
  go_loopw [5] (fun i wr => ∃ (k : Nat), k ≤ ts.length ∧ i = .int .i64 k ∧ ts.take k = us.take k ∧ Below w.heap.size w wr) (fun i _ => ts.length - (intOf i).toNat)
  case atStart => exact ⟨0, Nat.zero_le _, rfl, by simp, Below.refl _ _⟩
  case round =>
    obtain ⟨k, hk, rfl, htk, hbr⟩ := hrel
    have HTK := Lib.hid htk
    have HB := Lib.hid hbr
    have HSR := Lib.hid (HST.out.trans (Stays.of_below (C := C) hbr))
    clear htk
    by_cases hlk : k < ts.length
    · have hlk2 : k < us.length := by rw [← HL.out]; exact hlk
      obtain ⟨b, o, tp, tc, rp, rc, p, c, rfl, hC, hb, h9, hT, hI⟩ := HH.out k hlk
      obtain ⟨b2, o2, tp2, tc2, rp2, rc2, p2, c2, rfl, hC2, hb2, h92, hT2⟩ := tm_part HU.out k hlk2
      obtain ⟨g0, g1, g2, g3, g4, g5, g6, g7, g8⟩ := h9 wr HSR.out
      obtain ⟨d0, d1, d2, d3, d4, d5, d6, d7, d8⟩ := h92 wr (.of_below hbr)
      have HC := Lib.hid (eqM_of (w := wr.drew) (C := C) (C' := C') ((hT.stays HSR.out).stays (.of_below (Below.refl _ _).drew)) ((hT2.stays (.of_below hbr)).stays (.of_below (Below.refl _ _).drew)) (fun w' hw' => by
        have hw1 : Below wr.heap.size wr w' := (Below.refl _ _).drew.trans hw'
        exact hI w' C' _ _ (HSR.out.trans (.of_below hw1)) ((hT2.stays (.of_below hbr)).args.stays (.of_below hw1))))
      have i0 : (0 : Int) ≤ (k : Int) := Int.natCast_nonneg _
      have i1 : (k : Int) < (ts.length : Int) := by omega
      clear hC hb h9 hT hI hC2 hb2 h92 hT2 hbr
      go_wp2_with fail
      go_region_held3 (fun w' => w'.cell? ⟨b, o + k * 9, none⟩ = some (.int .i64 ts[k].kind) ∧ w'.cell? ⟨b, o + k * 9 + 1, none⟩ = some (.string ts[k].name) ∧ w'.cell? ⟨b, o + k * 9 + 2, none⟩ = some (.string ts[k].other) ∧ w'.cell? ⟨b, o + k * 9 + 3, none⟩ = some (.int .i64 ts[k].n) ∧ w'.cell? ⟨b, o + k * 9 + 4, none⟩ = some (.int .i64 ts[k].ty.kind) ∧ w'.cell? ⟨b, o + k * 9 + 5, none⟩ = some (.slice tp ts[k].ty.args.length tc) ∧ w'.cell? ⟨b, o + k * 9 + 6, none⟩ = some (.int .i64 ts[k].res.kind) ∧ w'.cell? ⟨b, o + k * 9 + 7, none⟩ = some (.slice rp ts[k].res.args.length rc) ∧ w'.cell? ⟨b, o + k * 9 + 8, none⟩ = some (.slice p ts[k].args.length c) ∧ w'.cell? ⟨b2, o2 + k * 9, none⟩ = some (.int .i64 us[k].kind) ∧ w'.cell? ⟨b2, o2 + k * 9 + 1, none⟩ = some (.string us[k].name) ∧ w'.cell? ⟨b2, o2 + k * 9 + 2, none⟩ = some (.string us[k].other) ∧ w'.cell? ⟨b2, o2 + k * 9 + 3, none⟩ = some (.int .i64 us[k].n) ∧ w'.cell? ⟨b2, o2 + k * 9 + 4, none⟩ = some (.int .i64 us[k].ty.kind) ∧ w'.cell? ⟨b2, o2 + k * 9 + 5, none⟩ = some (.slice tp2 us[k].ty.args.length tc2) ∧ w'.cell? ⟨b2, o2 + k * 9 + 6, none⟩ = some (.int .i64 us[k].res.kind) ∧ w'.cell? ⟨b2, o2 + k * 9 + 7, none⟩ = some (.slice rp2 us[k].res.args.length rc2) ∧ w'.cell? ⟨b2, o2 + k * 9 + 8, none⟩ = some (.slice p2 us[k].args.length c2) ∧ Below w.heap.size w w')
        (first
          | (go_keep; done)
          | exact ⟨g0, g1, g2, g3, g4, g5, g6, g7, g8, d0, d1, d2, d3, d4, d5, d6, d7, d8, HB.out.drew⟩
          | exact keep18 hb1 (by assumption))
        (first
          | (go_at_call 9; refine HC.out.mono ?_; rintro e w1 ⟨r, hr, rfl, hb1⟩))
      have HR := Lib.hid hr
      have HB1 := Lib.hid (HB.out.trans (((Below.refl _ _).drew.trans hb1).mono HB.out.size))
      rename_i hH
      clear hH hb1 hr g0 g1 g2 g3 g4 g5 g6 g7 g8 d0 d1 d2 d3 d4 d5 d6 d7 d8
      cases r with
      | true =>
        go_wp2_with fail
        go_roundw
        case rel => exact ⟨k + 1, by omega, by go_num, tm_take_eq HTK.out hlk hlk2 (HR.out.1 rfl), HB1.out⟩
        case measure => simp [intOf]; omega
      | false =>
        go_wp2_with fail
        go_ret
        exact ⟨false, by simpa using tm_ne_at hlk hlk2 (fun e => by simpa using HR.out.2 e), rfl, HB1.out⟩
    · obtain rfl : k = ts.length := by omega
      have htk : ts = us := by
        have := HTK.out
        rw [List.take_length, HL.out, List.take_length] at this
        exact this
      have HE := Lib.hid htk
      clear htk
      go_wp2_with fail
      go_ret
      exact ⟨true, by simpa using HE.out, rfl, HB.out⟩
/-- THE LAWS' eqTerm, AT ANY TWO TERMS. -/
theorem eqM_any {C C' : Nat → Prop} {t u : Tm} {v x : Value} {w : World} (h : TM w C t v) (h2 : TM w C' u x) :
    Calls Tryd.prog 9 #[v, x] w (BoolRet (fun b => b = true ↔ t = u) w) := by
  obtain ⟨tp, tc, rp, rc, p, c, rfl, hT⟩ := h
  obtain ⟨tp2, tc2, rp2, rc2, p2, c2, rfl, hU⟩ := h2
  exact eqM_of hT hU (fun w' hb => eqMS_any hT.args w' _ _ _ (.of_below hb) (hU.args.keep hb))
#print axioms eqM_any
end Go.Proofs.YtdofjnjiandcbaaDoor
/- TmCopy: The contract of the laws' toTermS and toTerm: the same term, in rows of the call's own. -/
namespace Go.Proofs.YtdofjnjiandcbaaDoor
open Go Go.RowKit

theorem infoTm : (Tryd.prog.info? 35).map (fun i => (i.zero, i.size, i.bytes)) = some (some (.agg #[.int .i64 0, .string ⟨#[]⟩, .string ⟨#[]⟩, .int .i64 0, .int .i64 0, .slice none 0 0, .int .i64 0, .slice none 0 0, .slice none 0 0]), 9, 136) := by kernel_rfl

theorem chain3 (w : World) (a b c : Obj) : ((((w.alloc a).alloc b).alloc c).heap[w.heap.size]? = some a ∧ (((w.alloc a).alloc b).alloc c).heap[w.heap.size + 1]? = some b ∧ (((w.alloc a).alloc b).alloc c).heap[w.heap.size + 1 + 1]? = some c) ∧
    (((w.alloc a).alloc b).alloc c).heap.size = w.heap.size + 3 ∧ Below w.heap.size w (((w.alloc a).alloc b).alloc c) := by
  refine ⟨⟨?_, ?_, ?_⟩, by simp, ((al_below w a).trans ((al_below _ b).mono (by simp))).trans ((al_below _ c).mono (by simp; omega))⟩
  · rw [Below.heap_alloc _ _ _ (by simp; omega), Below.heap_alloc _ _ _ (by simp)]; exact blk_new w a
  · rw [Below.heap_alloc _ _ _ (by simp)]
    have := blk_new (w.alloc a) b
    rwa [World.size_alloc] at this
  · have := blk_new ((w.alloc a).alloc b) c
    rwa [World.size_alloc, World.size_alloc] at this

/-- A term of the call's own; F: the blocks, which are apart. -/
abbrev tmL (t : Tm) (tp : Option Addr) (tc : Nat) (rp : Option Addr) (rc : Nat) (p : Option Addr) (c : Nat) : List Value :=
  [.int .i64 t.kind, .string t.name, .string t.other, .int .i64 t.n, .int .i64 t.ty.kind, .slice tp t.ty.args.length tc, .int .i64 t.res.kind, .slice rp t.res.args.length rc, .slice p t.args.length c]
def OMv (w : World) (t : Tm) (v : Value) (F : Nat → Prop) : Prop := ∃ tp tc rp rc p c, v = tmV t tp tc rp rc p c ∧ OSt w t.ds (tmL t tp tc rp rc p c) F
theorem OSt.tm {w : World} {t : Tm} {tp rp p : Option Addr} {tc rc c : Nat} {F : Nat → Prop} (h : OSt w t.ds (tmL t tp tc rp rc p c) F) : TM' w F t tp tc rp rc p c := by
  have hm := h.ms.2
  rw [t.ds_eq] at hm
  exact ⟨(hm 5 _ _ rfl rfl).ts _ (Nat.le_refl _), (hm 7 _ _ rfl rfl).ts _ (Nat.le_refl _), hm 8 _ _ rfl rfl⟩
theorem OMv.tm {w : World} {t : Tm} {v : Value} {F : Nat → Prop} (h : OMv w t v F) : TM w F t v := by
  obtain ⟨tp, tc, rp, rc, p, c, hv, h⟩ := h
  exact ⟨tp, tc, rp, rc, p, c, hv, h.tm⟩
theorem OMv.stays {w w' : World} {t : Tm} {v : Value} {F : Nat → Prop} (h : OMv w t v F) (hs : Stays F w w') : OMv w' t v F := by
  obtain ⟨tp, tc, rp, rc, p, c, hv, h⟩ := h
  exact ⟨tp, tc, rp, rc, p, c, hv, h.stays hs⟩
theorem OMv.keep {w w' : World} {t : Tm} {v : Value} {F : Nat → Prop} (h : OMv w t v F) (hb : Below w.heap.size w w') : OMv w' t v F := h.stays (.of_below hb)
theorem OMv.mono {w : World} {t : Tm} {v : Value} {F F' : Nat → Prop} (h : OMv w t v F) (hF : ∀ b, F b → F' b) : OMv w t v F' := by
  obtain ⟨tp, tc, rp, rc, p, c, hv, h⟩ := h
  exact ⟨tp, tc, rp, rc, p, c, hv, h.mono hF⟩
theorem OSt9 {w : World} {t : Tm} {tp rp p : Option Addr} {tc rc c : Nat} {F F1 F2 F3 : Nat → Prop} (h1 : OS w t.ty.args (.slice tp t.ty.args.length tc) F1) (h2 : OS w t.res.args (.slice rp t.res.args.length rc) F2) (h3 : DO w (tmD t.args) (.slice p t.args.length c) F3)
    (a1 : ∀ z, F1 z → F z ∧ ¬ F2 z ∧ ¬ F3 z) (a2 : ∀ z, F2 z → F z ∧ ¬ F3 z) (a3 : ∀ z, F3 z → F z) : OSt w t.ds (tmL t tp tc rp rc p c) F := by
  refine ⟨by rw [t.ds_len]; rfl, fun i z => (i = 5 ∧ F1 z) ∨ (i = 7 ∧ F2 z) ∨ (i = 8 ∧ F3 z), fun i d v hd hv => ?_, fun i z _ hz => ?_, fun i j z _ _ hij hz1 hz2 => ?_⟩
  · rw [t.ds_eq] at hd
    match i, hd, hv with
    | 0, hd, hv => cases hd; cases hv; exact .cell _ _
    | 1, hd, hv => cases hd; cases hv; exact .cell _ _
    | 2, hd, hv => cases hd; cases hv; exact .cell _ _
    | 3, hd, hv => cases hd; cases hv; exact .cell _ _
    | 4, hd, hv => cases hd; cases hv; exact .cell _ _
    | 5, hd, hv => cases hd; cases hv; exact h1.dO.mono (fun z hz => Or.inl ⟨rfl, hz⟩)
    | 6, hd, hv => cases hd; cases hv; exact .cell _ _
    | 7, hd, hv => cases hd; cases hv; exact h2.dO.mono (fun z hz => Or.inr (Or.inl ⟨rfl, hz⟩))
    | 8, hd, hv => cases hd; cases hv; exact h3.mono (fun z hz => Or.inr (Or.inr ⟨rfl, hz⟩))
    | n + 9, hd, hv => simp at hv
  · rcases hz with ⟨_, hz⟩ | ⟨_, hz⟩ | ⟨_, hz⟩
    · exact (a1 z hz).1
    · exact (a2 z hz).1
    · exact a3 z hz
  · rcases hz1 with ⟨rfl, h1⟩ | ⟨rfl, h1⟩ | ⟨rfl, h1⟩ <;> rcases hz2 with ⟨rfl, h2⟩ | ⟨rfl, h2⟩ | ⟨rfl, h2⟩
    · exact hij rfl
    · exact (a1 z h1).2.1 h2
    · exact (a1 z h1).2.2 h2
    · exact (a1 z h2).2.1 h1
    · exact hij rfl
    · exact (a2 z h1).2 h2
    · exact (a1 z h2).2.2 h1
    · exact (a2 z h2).2 h1
    · exact hij rfl

/-- A new term: the same as t, in blocks that were not there. -/
def NewM (t : Tm) (w : World) (e : Ending) (w' : World) : Prop := ∃ v, e = .returned v ∧ OMv w' t v (fun g => w.heap.size ≤ g ∧ g < w'.heap.size) ∧ Below w.heap.size w w'
def NewMS (ts : List Tm) (w : World) (e : Ending) (w' : World) : Prop := ∃ v, e = .returned v ∧ DO w' (tmD ts) v (fun g => w.heap.size ≤ g ∧ g < w'.heap.size) ∧ Below w.heap.size w w'

set_option maxRecDepth 100000 in
set_option maxHeartbeats 2000000 in
theorem toM_of {C : Nat → Prop} {t : Tm} {tp rp p : Option Addr} {tc rc c : Nat} {w : World} (hT : TM' w C t tp tc rp rc p c) (hn : t.wt ≤ 1048576)
    (h : ∀ (w' : World), Below w.heap.size w w' → Calls Tryd.prog 17 #[.slice p t.args.length c] w' (NewMS t.args w')) :
    Calls Tryd.prog 7 #[tmV t tp tc rp rc p c] w (NewM t w) := by
  have hwt := t.wt_eq
  have n1 : nodesS t.ty.args ≤ 1048576 := by omega
  have n2 : nodesS t.res.args ≤ 1048576 := by omega
  obtain ⟨⟨k0, k1, k2⟩, hsz, hbl⟩ := chain3 w (.cells (tmC t tp tc rp rc p c) 27) (.cells #[.int .i64 0, .string ⟨#[]⟩, .string ⟨#[]⟩, .int .i64 0, .int .i64 0, .slice none 0 0, .int .i64 0, .slice none 0 0, .slice none 0 0] 35)
    (.cells #[.int .i64 t.kind, .string t.name, .string t.other, .int .i64 t.n, .int .i64 0, .slice none 0 0, .int .i64 0, .slice none 0 0, .slice none 0 0] 35)
  have HH := Lib.hid h
  have HT := Lib.hid hT
  have HK0 := Lib.hid k0
  have HK1 := Lib.hid k1
  have HK2 := Lib.hid k2
  have HSZ := Lib.hid hsz
  have HBL := Lib.hid hbl
  clear h hT hwt hn k0 k1 k2 hsz hbl
  go_enter Tryd.func7, Tryd.ntmps7
  go_wp2_with fail
  refine (toT_any (C := C) (t := t.ty) (v := .agg #[.int .i64 t.ty.kind, .slice tp t.ty.args.length tc]) ⟨_, rfl, HT.out.ty.keep HBL.out⟩ n1).mono ?_
  rintro e w1 ⟨v1, rfl, ⟨s1, rfl, ho1⟩, hb1⟩
  obtain ⟨p1, c1, rfl⟩ := ho1.form
  have hb1s := hb1.size
  rw [HSZ.out] at hb1 hb1s ho1
  have q0 := (hb1.block w.heap.size (by omega)).trans HK0.out
  have q1 := (hb1.block (w.heap.size + 1) (by omega)).trans HK1.out
  have q2 := (hb1.block (w.heap.size + 1 + 1) (by omega)).trans HK2.out
  obtain ⟨_, _, _, _, _, _, x6, x7, x8⟩ := Bx9.of q0
  have y4 : w1.cell? ⟨w.heap.size + 1 + 1, 4, none⟩ = some (.int .i64 0) := cell_of_blk q2 4
  have y5 : w1.cell? ⟨w.heap.size + 1 + 1, 5, none⟩ = some (.slice none 0 0) := cell_of_blk q2 5
  have yz := unfrozen_of_blk q2
  have e2 := heap_setCell_same _ _ 5 _ _ (.slice p1 t.ty.args.length c1) (heap_setCell_same w1 _ 4 _ _ (.int .i64 t.ty.kind) q2)
  have st : ∀ F : Nat → Prop, ¬ F (w.heap.size + 1 + 1) → Stays F w1 ((w1.setCell ⟨w.heap.size + 1 + 1, 4, none⟩ (.int .i64 t.ty.kind)).setCell ⟨w.heap.size + 1 + 1, 5, none⟩ (.slice p1 t.ty.args.length c1)) := fun F hF => (setCell_stays _ _ _ _ F hF).trans (setCell_stays _ _ _ _ F hF)
  have HS1 := Lib.hid (st (fun z => z ≠ w.heap.size + 1 + 1) (by simp))
  have HO1 := Lib.hid (ho1.stays (st _ (by omega)))
  have HQ0 := Lib.hid ((HS1.out.2 w.heap.size (by omega) (by omega)).trans q0)
  have HQ1 := Lib.hid ((HS1.out.2 (w.heap.size + 1) (by omega) (by omega)).trans q1)
  have HQ2 := Lib.hid e2
  have hB2 : Below w.heap.size w ((w1.setCell ⟨w.heap.size + 1 + 1, 4, none⟩ (.int .i64 t.ty.kind)).setCell ⟨w.heap.size + 1 + 1, 5, none⟩ (.slice p1 t.ty.args.length c1)) :=
    ((HBL.out.trans (hb1.mono (by omega))).setCell (p := ⟨w.heap.size + 1 + 1, 4, none⟩) (by show w.heap.size ≤ w.heap.size + 1 + 1; omega) _).setCell (p := ⟨w.heap.size + 1 + 1, 5, none⟩) (by show w.heap.size ≤ w.heap.size + 1 + 1; omega) _
  have HB2 := Lib.hid hB2
  have HZ2 := Lib.hid (show ((w1.setCell ⟨w.heap.size + 1 + 1, 4, none⟩ (.int .i64 t.ty.kind)).setCell ⟨w.heap.size + 1 + 1, 5, none⟩ (.slice p1 t.ty.args.length c1)).heap.size = w1.heap.size by simp [World.setCell])
  have HC2 := Lib.hid (toT_any (C := C) (t := t.res) (v := .agg #[.int .i64 t.res.kind, .slice rp t.res.args.length rc]) ⟨_, rfl, HT.out.res.keep hB2⟩ n2)
  have L1 := Lib.hid hb1s
  clear q0 q1 q2 e2 st hB2 ho1 hb1 hb1s
  go_wp2_with fail
  refine HC2.out.mono ?_
  rintro e w2 ⟨v2, rfl, ⟨s2, rfl, ho2⟩, hb2⟩
  obtain ⟨p2, c2, rfl⟩ := ho2.form
  have hb2s := hb2.size
  rw [HZ2.out] at hb2 hb2s ho2
  have hl1 := L1.out
  have q0 := (hb2.block w.heap.size (by omega)).trans HQ0.out
  have q1 := (hb2.block (w.heap.size + 1) (by omega)).trans HQ1.out
  have q2 := (hb2.block (w.heap.size + 1 + 1) (by omega)).trans HQ2.out
  clear x6 x7 x8 y4 y5 yz
  obtain ⟨_, _, _, _, _, _, _, _, x8⟩ := Bx9.of q0
  have y6 : w2.cell? ⟨w.heap.size + 1 + 1, 6, none⟩ = some (.int .i64 0) := cell_of_blk q2 6
  have y7 : w2.cell? ⟨w.heap.size + 1 + 1, 7, none⟩ = some (.slice none 0 0) := cell_of_blk q2 7
  have yz := unfrozen_of_blk q2
  have e2 := heap_setCell_same _ _ 7 _ _ (.slice p2 t.res.args.length c2) (heap_setCell_same w2 _ 6 _ _ (.int .i64 t.res.kind) q2)
  have st : ∀ F : Nat → Prop, ¬ F (w.heap.size + 1 + 1) → Stays F w2 ((w2.setCell ⟨w.heap.size + 1 + 1, 6, none⟩ (.int .i64 t.res.kind)).setCell ⟨w.heap.size + 1 + 1, 7, none⟩ (.slice p2 t.res.args.length c2)) := fun F hF => (setCell_stays _ _ _ _ F hF).trans (setCell_stays _ _ _ _ F hF)
  have HS2 := Lib.hid (st (fun z => z ≠ w.heap.size + 1 + 1) (by simp))
  have HO12 := Lib.hid ((HO1.out.stays (.of_below (HZ2.out.symm ▸ hb2))).stays (st _ (by omega)))
  have HO2 := Lib.hid (ho2.stays (st _ (by omega)))
  have HP0 := Lib.hid ((HS2.out.2 w.heap.size (by omega) (by omega)).trans q0)
  have HP1 := Lib.hid ((HS2.out.2 (w.heap.size + 1) (by omega) (by omega)).trans q1)
  have HP2 := Lib.hid e2
  have hB3 : Below w.heap.size w ((w2.setCell ⟨w.heap.size + 1 + 1, 6, none⟩ (.int .i64 t.res.kind)).setCell ⟨w.heap.size + 1 + 1, 7, none⟩ (.slice p2 t.res.args.length c2)) :=
    ((HB2.out.trans (hb2.mono (by omega))).setCell (p := ⟨w.heap.size + 1 + 1, 6, none⟩) (by show w.heap.size ≤ w.heap.size + 1 + 1; omega) _).setCell (p := ⟨w.heap.size + 1 + 1, 7, none⟩) (by show w.heap.size ≤ w.heap.size + 1 + 1; omega) _
  have HB3 := Lib.hid hB3
  have HZ3 := Lib.hid (show ((w2.setCell ⟨w.heap.size + 1 + 1, 6, none⟩ (.int .i64 t.res.kind)).setCell ⟨w.heap.size + 1 + 1, 7, none⟩ (.slice p2 t.res.args.length c2)).heap.size = w2.heap.size by simp [World.setCell])
  have HC3 := Lib.hid (HH.out _ hB3)
  have L2 := Lib.hid hb2s
  clear q0 q1 q2 e2 st hB3 ho2 hb2 hb2s hl1
  go_wp2_with fail
  refine HC3.out.mono ?_
  rintro e w3 ⟨v3, rfl, ho3, hb3⟩
  obtain ⟨p3, c3, rfl⟩ := ho3.form
  have hb3s := hb3.size
  rw [HZ3.out] at hb3 hb3s ho3
  have hl1 := L1.out
  have hl2 := L2.out
  have q1 := (hb3.block (w.heap.size + 1) (by omega)).trans HP1.out
  have q2 := (hb3.block (w.heap.size + 1 + 1) (by omega)).trans HP2.out
  clear x8 y6 y7 yz
  have y0 : w3.cell? ⟨w.heap.size + 1 + 1, 0, none⟩ = some (.int .i64 t.kind) := cell_of_blk q2 0
  have y1 : w3.cell? ⟨w.heap.size + 1 + 1, 1, none⟩ = some (.string t.name) := cell_of_blk q2 1
  have y2 : w3.cell? ⟨w.heap.size + 1 + 1, 2, none⟩ = some (.string t.other) := cell_of_blk q2 2
  have y3 : w3.cell? ⟨w.heap.size + 1 + 1, 3, none⟩ = some (.int .i64 t.n) := cell_of_blk q2 3
  have y4 : w3.cell? ⟨w.heap.size + 1 + 1, 4, none⟩ = some (.int .i64 t.ty.kind) := cell_of_blk q2 4
  have y5 : w3.cell? ⟨w.heap.size + 1 + 1, 5, none⟩ = some (.slice p1 t.ty.args.length c1) := cell_of_blk q2 5
  have y6 : w3.cell? ⟨w.heap.size + 1 + 1, 6, none⟩ = some (.int .i64 t.res.kind) := cell_of_blk q2 6
  have y7 : w3.cell? ⟨w.heap.size + 1 + 1, 7, none⟩ = some (.slice p2 t.res.args.length c2) := cell_of_blk q2 7
  have y8 : w3.cell? ⟨w.heap.size + 1 + 1, 8, none⟩ = some (.slice none 0 0) := cell_of_blk q2 8
  have yz := unfrozen_of_blk q2
  have z0 : w3.cell? ⟨w.heap.size + 1, 0, none⟩ = some (.int .i64 0) := cell_of_blk q1 0
  have z1 : w3.cell? ⟨w.heap.size + 1, 1, none⟩ = some (.string ⟨#[]⟩) := cell_of_blk q1 1
  have z2 : w3.cell? ⟨w.heap.size + 1, 2, none⟩ = some (.string ⟨#[]⟩) := cell_of_blk q1 2
  have z3 : w3.cell? ⟨w.heap.size + 1, 3, none⟩ = some (.int .i64 0) := cell_of_blk q1 3
  have z4 : w3.cell? ⟨w.heap.size + 1, 4, none⟩ = some (.int .i64 0) := cell_of_blk q1 4
  have z5 : w3.cell? ⟨w.heap.size + 1, 5, none⟩ = some (.slice none 0 0) := cell_of_blk q1 5
  have z6 : w3.cell? ⟨w.heap.size + 1, 6, none⟩ = some (.int .i64 0) := cell_of_blk q1 6
  have z7 : w3.cell? ⟨w.heap.size + 1, 7, none⟩ = some (.slice none 0 0) := cell_of_blk q1 7
  have z8 : w3.cell? ⟨w.heap.size + 1, 8, none⟩ = some (.slice none 0 0) := cell_of_blk q1 8
  have zz := unfrozen_of_blk q1
  have hb3' : Below _ _ w3 := HZ3.out.symm ▸ hb3
  have HFIN := Lib.hid (OSt9 (t := t) (F := fun g => w.heap.size + 3 ≤ g ∧ g < w3.heap.size) (HO12.out.keep hb3') (HO2.out.keep hb3') ho3 (fun z hz => by omega) (fun z hz => by omega) (fun z hz => by omega))
  have HB4 := Lib.hid (HB3.out.trans (hb3'.mono HB3.out.size))
  clear q1 q2 ho3 hb3 hb3' hb3s hl1 hl2
  go_wp2_with fail
  refine bodyPost_ret (v := tmV t p1 c1 p2 c2 p3 c3) ?_ rfl ?_
  · rw [results_cell1 rfl]
    go_simp
  · refine ⟨_, rfl, ⟨p1, c1, p2, c2, p3, c3, rfl, OSt.mono (OSt.stays HFIN.out ?_) (fun z hz => ⟨by omega, ?_⟩)⟩, ?_⟩
    · iterate 10 (refine Stays.trans ?_ (setCell_stays _ _ _ _ _ (by omega)))
      exact Stays.refl _ _
    · have := hz.2
      simp [World.setCell]
      omega
    iterate 10 (refine Below.setCell ?_ (by dsimp only; omega) _)
    exact HB4.out
end Go.Proofs.YtdofjnjiandcbaaDoor
/- TmCopy2: The contract of the laws' toTermS and toTerm, at every term. -/
namespace Go.Proofs.YtdofjnjiandcbaaDoor
open Go Go.RowKit

theorem setN9 (w : World) (b o : Nat) (v0 v1 v2 v3 v4 v5 v6 v7 v8 : Value) : setN w b o [v0, v1, v2, v3, v4, v5, v6, v7, v8] =
    ((((((((w.setCell ⟨b, o, none⟩ v0).setCell ⟨b, o + 1, none⟩ v1).setCell ⟨b, o + 2, none⟩ v2).setCell ⟨b, o + 3, none⟩ v3).setCell ⟨b, o + 4, none⟩ v4).setCell ⟨b, o + 5, none⟩ v5).setCell ⟨b, o + 6, none⟩ v6).setCell ⟨b, o + 7, none⟩ v7).setCell ⟨b, o + 8, none⟩ v8 := rfl

set_option maxRecDepth 100000 in
set_option maxHeartbeats 2000000 in
theorem toMS_any {w0 : World} {C : Nat → Prop} {ts : List Tm} {v : Value} (h : DM w0 C (tmD ts) v) : ∀ (w : World), Stays C w0 w → wtS ts ≤ 1048576 → Calls Tryd.prog 17 #[v] w (NewMS ts w) := by
  obtain ⟨i0, hi, hz0, hz1, hz2⟩ := info_parts infoTm
  refine tm_ind (motive := fun ts v => ∀ (w : World), Stays C w0 w → wtS ts ≤ 1048576 → Calls Tryd.prog 17 #[v] w (NewMS ts w)) ?_ _ (Nat.le_refl _) h
  intro ts q d hlen H w hst hn
  have hge := wtS_ge ts
  have HH := Lib.hid H
  have HST := Lib.hid hst
  clear H hst
  go_enter Tryd.func17, Tryd.ntmps17
  go_wp2_with (at_make; refine wpList_make_full _ rfl _ _ 33 rfl w.heap.size 35 i0 _ 9 Tryd.underlying33 hi hz0 hz1 .i64 .i64 _ _ ts.length rfl rfl rfl rfl ?c1 ?c2 ?c3 ?_)
  case c1 => rw [hz2]; omega
  case c2 => unfold maxLen; omega
  case c3 => exact Nat.le_refl _
  intro w1 hown0 hg
  have hb1 : Below w.heap.size w w1 := (Below.refl _ _).grown hg (Nat.le_refl _) (fun k h => by cases h)
  have HO := Lib.hid (FilD.start (ds := flatTm ts) hown0)
  clear hown0 hg
  go_wp2_with fail
  go_loopw [4] (fun i wr => ∃ k : Nat, k ≤ ts.length ∧ i = .int .i64 k ∧ FilD wr w.heap.size 35 9 ts.length ts.length (flatTm ts) k ∧ Below w.heap.size w wr) (fun i _ => ts.length - (intOf i).toNat)
  case atStart => exact ⟨0, Nat.zero_le _, rfl, HO.out, hb1⟩
  case round =>
    obtain ⟨k, hk, rfl, hfill, hbr⟩ := hrel
    have HFI := Lib.hid hfill
    have HB := Lib.hid hbr
    have HSR := Lib.hid (HST.out.trans (Stays.of_below (C := C) hbr))
    clear hb1 hfill hbr
    by_cases hlk : k < ts.length
    · obtain ⟨b, o, tp, tc, rp, rc, p, c, rfl, hC, hb, h9, hT, hI⟩ := HH.out k hlk
      obtain ⟨g0, g1, g2, g3, g4, g5, g6, g7, g8⟩ := h9 wr HSR.out
      have hwk := wtS_at ts k hlk
      have hwe := ts[k].wt_eq
      have HC := Lib.hid (toM_of (C := C) (hT.stays HSR.out) (by omega) (fun w' hw' => hI w' (HSR.out.trans (.of_below hw')) (by omega)))
      have i0 : (0 : Int) ≤ (k : Int) := Int.natCast_nonneg _
      have i1 : (k : Int) < (ts.length : Int) := by omega
      clear hC hb h9 hT hI hwk hwe
      go_wp2_with fail
      refine HC.out.mono ?_
      rintro e w2 ⟨v, rfl, ⟨tp2, tc2, rp2, rc2, p2, c2, rfl, hos⟩, hb2⟩
      obtain ⟨hrow, hgo⟩ := HFI.out.next hb2 hlk ts[k].ds_len (fun i hi => flatTm_at ts k i hlk hi) hos
      obtain ⟨q0, x0⟩ := hrow 0 (by omega)
      obtain ⟨q1, x1⟩ := hrow 1 (by omega)
      obtain ⟨q2, x2⟩ := hrow 2 (by omega)
      obtain ⟨q3, x3⟩ := hrow 3 (by omega)
      obtain ⟨q4, x4⟩ := hrow 4 (by omega)
      obtain ⟨q5, x5⟩ := hrow 5 (by omega)
      obtain ⟨q6, x6⟩ := hrow 6 (by omega)
      obtain ⟨q7, x7⟩ := hrow 7 (by omega)
      obtain ⟨q8, x8⟩ := hrow 8 (by omega)
      rw [Nat.add_zero] at x0
      have z1 := fun i => HFI.out.frz hb2 i
      have hb3 := (HB.out.trans (hb2.mono HB.out.size)).trans (setN_below (tmL ts[k] tp2 tc2 rp2 rc2 p2 c2) w.heap.size w2 w.heap.size (k * 9) (Nat.le_refl _))
      rw [setN9] at hgo hb3
      have HN := Lib.hid hgo
      have HB2 := Lib.hid hb3
      clear hgo hos hb2 hb3 hrow g0 g1 g2 g3 g4 g5 g6 g7 g8
      go_wp2_with fail
      go_roundw
      case rel => exact ⟨k + 1, by omega, by go_num, HN.out, HB2.out⟩
      case measure => simp [intOf]; omega
    · obtain rfl : k = ts.length := by omega
      go_wp2_with fail
      go_ret
      exact ⟨_, rfl, HFI.out.full (flatTm_len ts) (by unfold maxLen; omega), HB.out⟩
/-- THE LAWS' toTerm, AT EVERY TERM. -/
theorem toM_any {C : Nat → Prop} {t : Tm} {v : Value} {w : World} (h : TM w C t v) (hn : t.wt ≤ 1048576) : Calls Tryd.prog 7 #[v] w (NewM t w) := by
  obtain ⟨tp, tc, rp, rc, p, c, rfl, hT⟩ := h
  have hwe := t.wt_eq
  exact toM_of hT hn (fun w' hb => toMS_any hT.args w' (.of_below hb) (by omega))
#print axioms toM_any
end Go.Proofs.YtdofjnjiandcbaaDoor
/- SpecTy: The contracts of the model's SizeOfType, DepthOfType, l3Form, l3Left, l3Has: what they answer at a type in memory. -/
namespace Go.Proofs.YtdofjnjiandcbaaDoor
open Go Go.RowKit

end Go.Proofs.YtdofjnjiandcbaaDoor
/- SpecTy2: The contracts of the model's DepthOfType, l3Form, l3Left, l3Has: what they answer at a type in memory. -/
namespace Go.Proofs.YtdofjnjiandcbaaDoor
open Go Go.RowKit


set_option maxRecDepth 100000 in
theorem max_any (a b : Int) (w : World) : Calls Tryd.prog 59 #[.int .i64 a, .int .i64 b] w fun e w' => e = .returned (.int .i64 (max a b)) ∧ w' = w := by
  go_enter Tryd.func59, Tryd.ntmps59
  by_cases h : b < a
  · go_wp2
    go_ret
    exact ⟨congrArg (fun z => Ending.returned (.int .i64 z)) (Int.max_eq_left (by omega)).symm, rfl⟩
  · go_wp2
    go_ret
    exact ⟨congrArg (fun z => Ending.returned (.int .i64 z)) (Int.max_eq_right (by omega)).symm, rfl⟩

theorem form_false {q : Int} {ts : List Ty} {k : Nat} (h : k < ts.length) (hf : ts[k].form = false) : (Ty.mk q ts).form = false := by
  have e : formS ts = false := by
    rw [← List.take_append_drop (k + 1) ts, formS_append, take_next h, formS_append]
    simp [formS, hf]
  simp [Ty.form, e]
theorem has_true {q u : Int} {ts : List Ty} {k : Nat} (h : k < ts.length) (hf : ts[k].has u = true) : (Ty.mk q ts).has u = true := by
  have e : hasS u ts = true := by
    rw [← List.take_append_drop (k + 1) ts, hasS_append, take_next h, hasS_append]
    simp [hasS, hf]
  simp [Ty.has, e]
theorem form_kind {q : Int} {ts : List Ty} {b : Bool} (h : formS ts = true) (hb : b = (if q = 1 ∨ q = 2 then ts.length == 0 else if q = 3 then ts.length == 2 else q == 4 && ts.length == 1)) : b = (Ty.mk q ts).form := by
  rw [Ty.form, h, hb, Bool.true_and]
theorem beq_0 (n : Nat) : ((n : Int) == 0) = (n == 0) := by rw [Bool.eq_iff_iff]; simp only [beq_iff_eq]; omega
theorem beq_decide (a b : Nat) : (a == b) = decide (a = b) := by rw [Bool.eq_iff_iff]; simp
theorem beq_1 (n : Nat) : ((n : Int) == 1) = (n == 1) := by rw [Bool.eq_iff_iff]; simp only [beq_iff_eq]; omega
theorem beq_2 (n : Nat) : ((n : Int) == 2) = (n == 2) := by rw [Bool.eq_iff_iff]; simp only [beq_iff_eq]; omega

/-- What is left of a bound behind n nodes; below 0: there were more. -/
def LeftEnds (left : Int) (n : Nat) (r : Int) : Prop := (0 ≤ r ∧ r + n = left) ∨ (r < 0 ∧ -1 ≤ r ∧ left < n) ∨ (r = -1 ∧ left = -1)
theorem LeftEnds.range {left : Int} {n : Nat} {r : Int} (h : LeftEnds left n r) (hl : -1 ≤ left) : -1 ≤ r ∧ r ≤ left := by
  unfold LeftEnds at h
  omega
theorem leftEnds_start {left : Int} (h : 0 ≤ left) : LeftEnds (left - 1) (nodesS ([] : List Ty)) (left - 1) := by
  unfold LeftEnds; simp only [nodesS]; omega
theorem LeftEnds.stop {left L : Int} {ts : List Ty} {k : Nat} (h : LeftEnds (left - 1) (nodesS (ts.take k)) L) (hn : L < 0) (_ : nodesS (ts.take (k + 1)) ≤ nodesS ts) : LeftEnds left (1 + nodesS ts) L := by
  have := nodesS_take_le ts k
  unfold LeftEnds at *; omega
theorem LeftEnds.next {left L r : Int} {n m : Nat} (h : LeftEnds (left - 1) n L) (hr : LeftEnds L m r) (h0 : 0 ≤ L) : LeftEnds (left - 1) (n + m) r := by
  unfold LeftEnds at *; omega
theorem LeftEnds.full {left L : Int} {n : Nat} (h : LeftEnds (left - 1) n L) : LeftEnds left (1 + n) L := by
  unfold LeftEnds at *; omega

set_option maxRecDepth 100000 in
set_option maxHeartbeats 1000000 in
theorem depth_any {w0 : World} {C : Nat → Prop} {ts : List Ty} {v : Value} (h : TS w0 C ts v) : ∀ (w : World) (q : Int), Stays C w0 w → nodesS ts ≤ 2097152 → Calls Tryd.prog 61 #[.agg #[.int .i64 q, v]] w (IntRet (fun r => r = ((1 + depthS ts : Nat) : Int)) w) := by
  refine TS.ind (motive := fun ts v => ∀ (w : World) (q : Int), Stays C w0 w → nodesS ts ≤ 2097152 → Calls Tryd.prog 61 #[.agg #[.int .i64 q, v]] w (IntRet (fun r => r = ((1 + depthS ts : Nat) : Int)) w)) ?_ h
  intro ts p c hl H w q hst hn
  have HH := Lib.hid H
  have HST := Lib.hid hst
  have hlen := nodesS_ge ts
  clear H hst
  go_enter Tryd.func61, Tryd.ntmps61
  go_wp2_with fail
  go_loopw [3, 4] (fun n i wr => ∃ (k : Nat), k ≤ ts.length ∧ i = .int .i64 k ∧ n = .int .i64 ((depthS (ts.take k) : Nat) : Int) ∧ Below (w.alloc (.cells #[.int .i64 q, .slice p ts.length c] 32)).heap.size (w.alloc (.cells #[.int .i64 q, .slice p ts.length c] 32)) wr) (fun _ i _ => ts.length - (intOf i).toNat)
  case atStart => exact ⟨0, Nat.zero_le _, rfl, by simp [depthS], Below.refl _ _⟩
  case round =>
    obtain ⟨k, hk, rfl, rfl, hbr⟩ := hrel
    have HB := Lib.hid hbr
    obtain ⟨d0, d1⟩ := box2 hbr
    clear hbr
    by_cases hlk : k < ts.length
    · obtain ⟨b, o, p', c', rfl, hcs, hT, hI⟩ := HH.out k _ (List.getElem?_eq_getElem hlk)
      have hsr := HST.out.trans (Stays.of_below (C := C) (below_box HB.out))
      obtain ⟨c1, c2⟩ := hcs wr hsr
      have n1 := nodesS_take_next ts k hlk
      have n2 := nodesS_take_le ts (k + 1)
      have n3 := ts[k].nodes_eq
      have m1 := depthS_at ts k hlk
      have m2 := depthS_take_next ts k hlk
      have m3 := depth_at ts[k]
      have b1 : depthS (ts.take k) ≤ 2097152 := by omega
      have b2 : 1 + depthS ts[k].args ≤ 2097152 := by omega
      have HM2 := Lib.hid m2
      have HM3 := Lib.hid m3
      clear m1 m2 m3
      have HC := Lib.hid (hI wr ts[k].kind hsr (by omega))
      have HN1 := Lib.hid n1
      have HN2 := Lib.hid n2
      have HN3 := Lib.hid n3
      clear hcs hT hI hsr n1 n2 n3
      go_wp2_with fail
      refine HC.out.mono ?_
      rintro e w1 ⟨r, hr, rfl, hb1⟩
      have HB1 := Lib.hid (HB.out.trans (hb1.mono HB.out.size))
      clear hb1
      subst hr
      go_wp2_with fail
      refine (max_any _ _ _).mono ?_
      rintro e w2 ⟨rfl, rfl⟩
      go_wp2_with fail
      go_roundw
      case rel => exact ⟨k + 1, by omega, by go_num, by have h1 := HM2.out; have h2 := HM3.out; rw [h1, h2]; go_num, HB1.out⟩
      case measure => simp [intOf]; omega
    · obtain rfl : k = ts.length := by omega
      rw [List.take_length]
      have b3 := depthS_nodes ts
      go_wp2_with fail
      go_ret
      exact ⟨_, rfl, by go_num, below_box HB.out⟩

set_option maxRecDepth 100000 in
set_option maxHeartbeats 1000000 in
theorem form_any {w0 : World} {C : Nat → Prop} {ts : List Ty} {v : Value} (h : TS w0 C ts v) : ∀ (w : World) (q : Int), Stays C w0 w → nodesS ts ≤ 2097152 → Calls Tryd.prog 62 #[.agg #[.int .i64 q, v]] w (BoolRet (fun r => r = (Ty.mk q ts).form) w) := by
  refine TS.ind (motive := fun ts v => ∀ (w : World) (q : Int), Stays C w0 w → nodesS ts ≤ 2097152 → Calls Tryd.prog 62 #[.agg #[.int .i64 q, v]] w (BoolRet (fun r => r = (Ty.mk q ts).form) w)) ?_ h
  intro ts p c hl H w q hst hn
  have HH := Lib.hid H
  have HST := Lib.hid hst
  have hlen := nodesS_ge ts
  clear H hst
  go_enter Tryd.func62, Tryd.ntmps62
  go_wp2_with fail
  go_loopw [3] (fun i wr => ∃ (k : Nat), k ≤ ts.length ∧ i = .int .i64 k ∧ formS (ts.take k) = true ∧ Below (w.alloc (.cells #[.int .i64 q, .slice p ts.length c] 32)).heap.size (w.alloc (.cells #[.int .i64 q, .slice p ts.length c] 32)) wr) (fun i _ => ts.length - (intOf i).toNat)
  case atStart => exact ⟨0, Nat.zero_le _, rfl, by simp [formS], Below.refl _ _⟩
  case round =>
    obtain ⟨k, hk, rfl, hfm, hbr⟩ := hrel
    have HB := Lib.hid hbr
    obtain ⟨d0, d1⟩ := box2 hbr
    clear hbr
    by_cases hlk : k < ts.length
    · obtain ⟨b, o, p', c', rfl, hcs, hT, hI⟩ := HH.out k _ (List.getElem?_eq_getElem hlk)
      have hsr := HST.out.trans (Stays.of_below (C := C) (below_box HB.out))
      obtain ⟨c1, c2⟩ := hcs wr hsr
      have n1 := nodesS_take_next ts k hlk
      have n2 := nodesS_take_le ts (k + 1)
      have n3 := ts[k].nodes_eq
      have HM := Lib.hid hfm
      clear hfm
      have HC := Lib.hid (hI wr ts[k].kind hsr (by omega))
      have HN1 := Lib.hid n1
      have HN2 := Lib.hid n2
      have HN3 := Lib.hid n3
      clear hcs hT hI hsr n1 n2 n3
      go_wp2_with fail
      refine HC.out.mono ?_
      rintro e w1 ⟨r, hr, rfl, hb1⟩
      have HB1 := Lib.hid (HB.out.trans (hb1.mono HB.out.size))
      clear hb1
      have HR := Lib.hid hr
      clear hr
      cases r with
      | true =>
        go_wp2_with fail
        go_roundw
        case rel => exact ⟨k + 1, by omega, by go_num, by rw [take_next hlk, formS_append, HM.out]; simpa [formS, ← Ty.eta] using HR.out.symm, HB1.out⟩
        case measure => simp [intOf]; omega
      | false =>
        go_wp2_with fail
        go_ret
        exact ⟨false, (form_false hlk (by rw [Ty.eta ts[k]]; exact HR.out.symm)).symm, rfl, below_box HB1.out⟩
    · obtain rfl : k = ts.length := by omega
      rw [List.take_length] at hfm
      have HM := Lib.hid hfm
      clear hfm
      by_cases q1 : q = 1
      · subst q1
        go_wp2_with fail
        go_ret
        exact ⟨_, form_kind HM.out (by simp [beq_0]), rfl, below_box HB.out⟩
      by_cases q2 : q = 2
      · subst q2
        go_wp2_with fail
        go_ret
        exact ⟨_, form_kind HM.out (by simp [beq_0]), rfl, below_box HB.out⟩
      by_cases q3 : q = 3
      · subst q3
        go_wp2_with fail
        go_ret
        exact ⟨_, form_kind HM.out (by simp [beq_2]), rfl, below_box HB.out⟩
      by_cases q4 : q = 4
      · subst q4
        go_wp2_with fail
        go_ret
        exact ⟨_, form_kind HM.out (by simp [beq_1]), rfl, below_box HB.out⟩
      go_wp2_with fail
      go_ret
      exact ⟨_, form_kind HM.out (by simp [q1, q2, q3, q4]), rfl, below_box HB.out⟩

set_option maxRecDepth 100000 in
set_option maxHeartbeats 1000000 in
theorem left_any {w0 : World} {C : Nat → Prop} {ts : List Ty} {v : Value} (h : TS w0 C ts v) : ∀ (w : World) (q : Int) (left : Int), Stays C w0 w → nodesS ts ≤ 2097152 → 0 ≤ left → left ≤ 2097152 → Calls Tryd.prog 60 #[.agg #[.int .i64 q, v], .int .i64 left] w (IntRet (LeftEnds left (1 + nodesS ts)) w) := by
  refine TS.ind (motive := fun ts v => ∀ (w : World) (q : Int) (left : Int), Stays C w0 w → nodesS ts ≤ 2097152 → 0 ≤ left → left ≤ 2097152 → Calls Tryd.prog 60 #[.agg #[.int .i64 q, v], .int .i64 left] w (IntRet (LeftEnds left (1 + nodesS ts)) w)) ?_ h
  intro ts p c hl H w q left hst hn h0 hL
  have HH := Lib.hid H
  have HST := Lib.hid hst
  have hlen := nodesS_ge ts
  clear H hst
  go_enter Tryd.func60, Tryd.ntmps60
  go_wp2_with fail
  go_loopw [1, 5] (fun l i wr => ∃ (k : Nat) (L : Int), k ≤ ts.length ∧ i = .int .i64 k ∧ l = .int .i64 L ∧ LeftEnds (left - 1) (nodesS (ts.take k)) L ∧ Below (w.alloc (.cells #[.int .i64 q, .slice p ts.length c] 32)).heap.size (w.alloc (.cells #[.int .i64 q, .slice p ts.length c] 32)) wr) (fun _ i _ => ts.length - (intOf i).toNat)
  case atStart => exact ⟨0, _, Nat.zero_le _, rfl, rfl, leftEnds_start h0, Below.refl _ _⟩
  case round =>
    obtain ⟨k, L, hk, rfl, rfl, hle, hbr⟩ := hrel
    have HB := Lib.hid hbr
    obtain ⟨d0, d1⟩ := box2 hbr
    clear hbr
    by_cases hlk : k < ts.length
    · obtain ⟨b, o, p', c', rfl, hcs, hT, hI⟩ := HH.out k _ (List.getElem?_eq_getElem hlk)
      have hsr := HST.out.trans (Stays.of_below (C := C) (below_box HB.out))
      obtain ⟨c1, c2⟩ := hcs wr hsr
      have n1 := nodesS_take_next ts k hlk
      have n2 := nodesS_take_le ts (k + 1)
      have n3 := ts[k].nodes_eq
      have HM := Lib.hid hle
      have hLr := hle.range (by omega)
      clear hle
      by_cases hneg : L < 0
      · clear hcs hT hI hsr n1 n3
        go_wp2_with fail
        go_ret
        exact ⟨_, HM.out.stop hneg n2, rfl, below_box HB.out⟩
      have HC := Lib.hid (hI wr ts[k].kind L hsr (by omega) (by omega) (by omega))
      have HN1 := Lib.hid n1
      have HN2 := Lib.hid n2
      have HN3 := Lib.hid n3
      clear hcs hT hI hsr n1 n2 n3
      go_wp2_with fail
      refine HC.out.mono ?_
      rintro e w1 ⟨r, hr, rfl, hb1⟩
      have HB1 := Lib.hid (HB.out.trans (hb1.mono HB.out.size))
      clear hb1
      have hr2 := hr.range (by omega)
      have HR := Lib.hid hr
      clear hr
      go_wp2_with fail
      go_roundw
      case rel => exact ⟨k + 1, r, by omega, by go_num, rfl, by rw [HN1.out, HN3.out]; exact HM.out.next HR.out (by omega), HB1.out⟩
      case measure => simp [intOf]; omega
    · obtain rfl : k = ts.length := by omega
      rw [List.take_length] at hle
      have HM := Lib.hid hle
      have hLr := hle.range (by omega)
      clear hle
      go_wp2_with fail
      go_ret
      exact ⟨_, HM.out.full, rfl, below_box HB.out⟩

end Go.Proofs.YtdofjnjiandcbaaDoor
/- SpecTy3: The contracts of the model's IsValidType, IsBase, IsPlainType. -/
namespace Go.Proofs.YtdofjnjiandcbaaDoor
open Go Go.RowKit

def Ty.valid (t : Ty) : Bool := decide (t.nodes ≤ 30) && decide (t.depth ≤ 8) && t.form
def Ty.base (t : Ty) : Bool := decide ((t.kind = 1 ∨ t.kind = 2) ∧ t.args.length = 0)
def Ty.plain (t : Ty) : Bool := t.valid && !t.has 4

set_option maxRecDepth 100000 in
set_option maxHeartbeats 1000000 in
theorem valid_any {C : Nat → Prop} {t : Ty} {v : Value} {w : World} (h : TT w C t v) (hn : nodesS t.args ≤ 2097152) :
    Calls Tryd.prog 42 #[v] w (BoolRet (fun r => r = t.valid) w) := by
  obtain ⟨s, rfl, hS⟩ := h
  obtain ⟨p, c, rfl⟩ := hS.form
  have hb0 := (Below.refl w.heap.size w).alloc (Nat.le_refl _) (Obj.cells #[.int .i64 t.kind, .slice p t.args.length c] 32)
  have HB0 := Lib.hid hb0
  have HL := Lib.hid (left_any hS _ t.kind 30 (.of_below hb0) hn (by omega) (by omega))
  have HD := Lib.hid (fun w' (hw : Below w.heap.size w w') => depth_any hS w' t.kind (.of_below hw) hn)
  have HF := Lib.hid (fun w' (hw : Below w.heap.size w w') => form_any hS w' t.kind (.of_below hw) hn)
  have hdn := depthS_nodes t.args
  clear hS hb0
  have HV := Lib.hid (show t.valid = (decide (1 + nodesS t.args ≤ 30) && decide (1 + depthS t.args ≤ 8) && (Ty.mk t.kind t.args).form) by rw [Ty.valid, Ty.nodes_eq, depth_at, ← Ty.eta])
  go_enter Tryd.func42, Tryd.ntmps42
  go_wp2_with fail
  refine HL.out.mono ?_
  rintro e w1 ⟨r, hr, rfl, hb1⟩
  obtain ⟨c0, c1⟩ := box2 hb1
  have HB1 := Lib.hid (HB0.out.trans (hb1.mono HB0.out.size))
  have HR := Lib.hid hr
  have hrr := hr.range (by omega)
  by_cases h0 : 0 ≤ r
  · have hn30 : 1 + nodesS t.args ≤ 30 := by unfold LeftEnds at hr; omega
    clear hr hb1
    go_wp2_with fail
    refine (HD.out w1 HB1.out).mono ?_
    rintro e w2 ⟨d, rfl, rfl, hb2⟩
    have c20 := (hb2.cell (World.block_lt_of_cell? w1 _ c0)).trans c0
    have c21 := (hb2.cell (World.block_lt_of_cell? w1 _ c1)).trans c1
    have HB2 := Lib.hid (HB1.out.trans (hb2.mono HB1.out.size))
    clear hb2 c0 c1
    by_cases h8 : 1 + depthS t.args ≤ 8
    · go_wp2_with fail
      refine (HF.out w2 HB2.out).mono ?_
      rintro e w3 ⟨f, hf, rfl, hb3⟩
      have HB3 := Lib.hid (HB2.out.trans (hb3.mono HB2.out.size))
      have HFF := Lib.hid hf
      clear hf hb3
      go_wp2_with fail
      go_ret
      exact ⟨_, by rw [HV.out, ← HFF.out]; simp [hn30, h8], rfl, HB3.out⟩
    · go_wp2_with fail
      go_ret
      exact ⟨_, by rw [HV.out]; simp [h8], rfl, HB2.out⟩
  · have hn30 : ¬ 1 + nodesS t.args ≤ 30 := by unfold LeftEnds at hr; omega
    clear hr hb1
    go_wp2_with fail
    go_ret
    exact ⟨_, by rw [HV.out]; simp [hn30], rfl, HB1.out⟩

theorem formS_cons (t : Ty) (ts : List Ty) : formS (t :: ts) = true ↔ t.form = true ∧ formS ts = true := by simp [formS]
theorem form_mk (k : Int) (ts : List Ty) : (Ty.mk k ts).form = true ↔ formS ts = true ∧ ((k = 1 ∨ k = 2) ∧ ts.length = 0 ∨ k = 3 ∧ ts.length = 2 ∨ k = 4 ∧ ts.length = 1) := by
  simp only [Ty.form, Bool.and_eq_true]
  refine and_congr Iff.rfl ?_
  split
  · next h => simp only [beq_iff_eq]; omega
  · split
    · next h => simp only [beq_iff_eq]; omega
    · simp only [Bool.and_eq_true, beq_iff_eq]; omega
theorem valid_iff (t : Ty) : t.valid = true ↔ t.nodes ≤ 30 ∧ t.depth ≤ 8 ∧ t.form = true := by simp [Ty.valid, and_assoc]
end Go.Proofs.YtdofjnjiandcbaaDoor
/- TyText: The text of a type, and the parsing of such a text: plain facts, of no program. -/
namespace Go.Proofs.YtdofjnjiandcbaaDoor
open Go Go.RowKit

def textK (k : Int) (xs : List (List UInt8)) : List UInt8 :=
  if k = 1 then [73] else if k = 2 then [66] else if k = 3 then 40 :: (xs.getD 0 [] ++ 62 :: (xs.getD 1 [] ++ [41])) else 60 :: (xs.getD 0 [] ++ [62])
mutual
/-- The text of a type. -/
def Ty.text : Ty → List UInt8
  | .mk k ts => textK k (textS ts)
def textS : List Ty → List (List UInt8)
  | [] => []
  | t :: ts => t.text :: textS ts
end
theorem text_fun (a b : Ty) : (Ty.mk 3 [a, b]).text = 40 :: (a.text ++ 62 :: (b.text ++ [41])) := by simp [Ty.text, textS, textK]
theorem text_code (a : Ty) : (Ty.mk 4 [a]).text = 60 :: (a.text ++ [62]) := by simp [Ty.text, textS, textK]
theorem text_int (ts : List Ty) : (Ty.mk 1 ts).text = [73] := by simp [Ty.text, textK]
theorem text_bool (ts : List Ty) : (Ty.mk 2 ts).text = [66] := by simp [Ty.text, textK]

/-- A type of a right form is of one of four kinds. -/
theorem form_cases {t : Ty} (h : t.form = true) : t = .mk 1 [] ∨ t = .mk 2 [] ∨ (∃ a b, t = .mk 3 [a, b] ∧ a.form = true ∧ b.form = true) ∨ ∃ a, t = .mk 4 [a] ∧ a.form = true := by
  obtain ⟨k, ts⟩ := t
  obtain ⟨h1, h2⟩ := (form_mk k ts).1 h
  rcases h2 with ⟨hk, hl⟩ | ⟨rfl, hl⟩ | ⟨rfl, hl⟩
  · obtain rfl := List.eq_nil_of_length_eq_zero hl
    rcases hk with rfl | rfl
    · exact Or.inl rfl
    · exact Or.inr (Or.inl rfl)
  · obtain ⟨a, b, rfl⟩ : ∃ a b, ts = [a, b] := by
      match ts, hl with
      | [a, b], _ => exact ⟨a, b, rfl⟩
    simp only [formS_cons] at h1
    exact Or.inr (Or.inr (Or.inl ⟨a, b, rfl, h1.1, h1.2.1⟩))
  · obtain ⟨a, rfl⟩ := List.length_eq_one_iff.1 hl
    simp only [formS_cons] at h1
    exact Or.inr (Or.inr (Or.inr ⟨a, rfl, h1.1⟩))

theorem text_le : ∀ (n : Nat) (t : Ty), t.nodes ≤ n → t.form = true → t.text.length ≤ 3 * t.nodes
  | 0, t, hn, _ => by rw [t.nodes_eq] at hn; omega
  | n + 1, t, hn, h => by
    rcases form_cases h with rfl | rfl | ⟨a, b, rfl, ha, hb⟩ | ⟨a, rfl, ha⟩
    · simp [text_int, Ty.nodes, nodesS]
    · simp [text_bool, Ty.nodes, nodesS]
    · simp only [Ty.nodes, nodesS] at hn
      have h1 := text_le n a (by omega) ha
      have h2 := text_le n b (by omega) hb
      rw [text_fun]
      simp only [List.length_cons, List.length_append, List.length_nil, Ty.nodes, nodesS]
      omega
    · simp only [Ty.nodes, nodesS] at hn
      have h1 := text_le n a (by omega) ha
      rw [text_code]
      simp only [List.length_cons, List.length_append, List.length_nil, Ty.nodes, nodesS]
      omega

/-- Parts, each ahead of one of the ends. -/
def ptys (f : Nat → Option (Ty × Nat)) (s : List UInt8) : List UInt8 → Nat → Option (List Ty × Nat)
  | [], i => some ([], i)
  | e :: es, i => match f i with
    | none => none
    | some (t, j) => if s[j]? = some e then (ptys f s es (j + 1)).map (fun r => (t :: r.1, r.2)) else none
/-- The type at place i, at most k deep, and the place behind it. -/
def pty (s : List UInt8) : Nat → Nat → Option (Ty × Nat)
  | 0, _ => none
  | k + 1, i =>
    if s[i]? = some 73 then some (.mk 1 [], i + 1)
    else if s[i]? = some 66 then some (.mk 2 [], i + 1)
    else if s[i]? = some 40 then (ptys (pty s k) s [62, 41] (i + 1)).map fun r => (.mk 3 r.1, r.2)
    else if s[i]? = some 60 then (ptys (pty s k) s [62] (i + 1)).map fun r => (.mk 4 r.1, r.2)
    else none

theorem ptys_append (f : Nat → Option (Ty × Nat)) (s a b : List UInt8) (i : Nat) :
    ptys f s (a ++ b) i = (ptys f s a i).bind fun r => (ptys f s b r.2).map fun q => (r.1 ++ q.1, q.2) := by
  induction a generalizing i with
  | nil => simp only [List.nil_append, ptys, Option.bind_some]; cases ptys f s b i <;> rfl
  | cons e a ih =>
    simp only [List.cons_append, ptys]
    cases hf : f i with
    | none => rfl
    | some r =>
      obtain ⟨t, j⟩ := r
      dsimp only
      by_cases he : s[j]? = some e
      · rw [if_pos he, if_pos he, ih]
        cases ptys f s a (j + 1) with
        | none => rfl
        | some q =>
          simp only [Option.bind_some, Option.map_some]
          cases ptys f s b q.2 <;> rfl
      · rw [if_neg he, if_neg he]; rfl
theorem ptys_none {f : Nat → Option (Ty × Nat)} {s es : List UInt8} {i j : Nat} (h : ptys f s (es.take j) i = none) : ptys f s es i = none := by
  rw [← List.take_append_drop j es, ptys_append, h]; rfl
theorem ptys_snoc {f : Nat → Option (Ty × Nat)} {s es : List UInt8} {i n : Nat} {ts : List Ty} (h : ptys f s es i = some (ts, n)) (e : UInt8) :
    ptys f s (es ++ [e]) i = match f n with
      | none => none
      | some (t, j) => if s[j]? = some e then some (ts ++ [t], j + 1) else none := by
  rw [ptys_append, h]
  simp only [Option.bind_some, ptys]
  cases f n with
  | none => rfl
  | some r => obtain ⟨t, j⟩ := r; dsimp only; by_cases he : s[j]? = some e <;> simp [he]

/-- What has been parsed. -/
structure Good (s : List UInt8) (k i : Nat) (t : Ty) (j : Nat) : Prop where
  lt : i < j
  le : j ≤ s.length
  depth : t.depth ≤ k
  nodes : t.nodes + 1 ≤ 2 ^ k
  form : t.form = true
  text : s.drop i = t.text ++ s.drop j
theorem drop_at {s : List UInt8} {i : Nat} {c : UInt8} (h : s[i]? = some c) : s.drop i = c :: s.drop (i + 1) ∧ i < s.length := by
  obtain ⟨h1, rfl⟩ := List.getElem?_eq_some_iff.1 h
  exact ⟨List.drop_eq_getElem_cons h1, h1⟩
theorem two_pow_pos (k : Nat) : 1 ≤ 2 ^ k := Nat.one_le_two_pow
theorem pty_good (s : List UInt8) : ∀ (k i : Nat) (t : Ty) (j : Nat), pty s k i = some (t, j) → Good s k i t j
  | 0, i, t, j, h => by cases h
  | k + 1, i, t, j, h => by
    have hp := two_pow_pos k
    unfold pty at h
    split at h
    · next hc =>
      obtain ⟨h1, h2⟩ := drop_at hc
      simp only [Option.some.injEq, Prod.mk.injEq] at h
      obtain ⟨rfl, rfl⟩ := h
      exact ⟨by omega, by omega, by simp [Ty.depth, depthS], by simp only [Ty.nodes, nodesS, Nat.pow_succ]; omega, by decide, by rw [h1, text_int]; rfl⟩
    · split at h
      · next hc =>
        obtain ⟨h1, h2⟩ := drop_at hc
        simp only [Option.some.injEq, Prod.mk.injEq] at h
        obtain ⟨rfl, rfl⟩ := h
        exact ⟨by omega, by omega, by simp [Ty.depth, depthS], by simp only [Ty.nodes, nodesS, Nat.pow_succ]; omega, by decide, by rw [h1, text_bool]; rfl⟩
      · split at h
        · next hc =>
          obtain ⟨h1, h2⟩ := drop_at hc
          simp only [ptys] at h
          cases ha : pty s k (i + 1) with
          | none => rw [ha] at h; cases h
          | some r =>
            obtain ⟨a, i1⟩ := r
            have ga := pty_good s k _ _ _ ha
            rw [ha] at h
            dsimp only at h
            split at h
            · next hc1 =>
              obtain ⟨h3, h4⟩ := drop_at hc1
              cases hb : pty s k (i1 + 1) with
              | none => rw [hb] at h; cases h
              | some r =>
                obtain ⟨b, i2⟩ := r
                have gb := pty_good s k _ _ _ hb
                rw [hb] at h
                dsimp only at h
                split at h
                · next hc2 =>
                  obtain ⟨h5, h6⟩ := drop_at hc2
                  simp only [Option.map_some, Option.some.injEq, Prod.mk.injEq] at h
                  obtain ⟨rfl, rfl⟩ := h
                  have := ga.lt
                  have := gb.lt
                  have := ga.nodes
                  have := gb.nodes
                  have := ga.depth
                  have := gb.depth
                  refine ⟨by omega, by omega, by simp only [Ty.depth, depthS]; omega, by simp only [Ty.nodes, nodesS, Nat.pow_succ]; omega, ?_, ?_⟩
                  · rw [form_mk]
                    simp [formS, ga.form, gb.form]
                  · rw [h1, ga.text, h3, gb.text, h5, text_fun]
                    simp
                · cases h
            · cases h
        · split at h
          · next hc =>
            obtain ⟨h1, h2⟩ := drop_at hc
            simp only [ptys] at h
            cases ha : pty s k (i + 1) with
            | none => rw [ha] at h; cases h
            | some r =>
              obtain ⟨a, i1⟩ := r
              have ga := pty_good s k _ _ _ ha
              rw [ha] at h
              dsimp only at h
              split at h
              · next hc1 =>
                obtain ⟨h3, h4⟩ := drop_at hc1
                simp only [Option.map_some, Option.some.injEq, Prod.mk.injEq] at h
                obtain ⟨rfl, rfl⟩ := h
                have := ga.lt
                have := ga.nodes
                have := ga.depth
                refine ⟨by omega, by omega, by simp only [Ty.depth, depthS]; omega, by simp only [Ty.nodes, nodesS, Nat.pow_succ]; omega, ?_, ?_⟩
                · rw [form_mk]
                  simp [formS, ga.form]
                · rw [h1, ga.text, h3, text_code]
                  simp
              · cases h
          · cases h

theorem drop_more {s x r : List UInt8} {i : Nat} {c : UInt8} (h : s.drop i = x ++ c :: r) : s[i + x.length]? = some c ∧ s.drop (i + x.length + 1) = r := by
  constructor
  · rw [← List.getElem?_drop, h]; simp
  · rw [Nat.add_assoc, ← List.drop_drop, h]
    have : (x ++ c :: r).drop (x.length + 1) = (c :: r).drop 1 := by rw [List.drop_append]; simp
    rw [this]; rfl
/-- A TYPE'S TEXT IS PARSED AS THAT TYPE. -/
theorem pty_text (s : List UInt8) : ∀ (k : Nat) (t : Ty) (i : Nat) (r : List UInt8), t.form = true → t.depth ≤ k → s.drop i = t.text ++ r → pty s k i = some (t, i + t.text.length)
  | 0, t, i, r, _, hd, _ => by rw [depth_at] at hd; omega
  | k + 1, t, i, r, hf, hd, hs => by
    unfold pty
    rcases form_cases hf with rfl | rfl | ⟨a, b, rfl, ha, hb⟩ | ⟨a, rfl, ha⟩
    · rw [text_int] at hs
      have h1 := (drop_more (x := []) (by simpa using hs)).1
      simp only [List.length_nil, Nat.add_zero] at h1
      rw [if_pos h1, text_int]; rfl
    · rw [text_bool] at hs
      have h1 := (drop_more (x := []) (by simpa using hs)).1
      simp only [List.length_nil, Nat.add_zero] at h1
      rw [if_neg (by rw [h1]; decide), if_pos h1, text_bool]; rfl
    · rw [text_fun] at hs
      have h1 := drop_more (x := []) (i := i) (c := 40) (r := a.text ++ 62 :: (b.text ++ 41 :: r)) (by simpa using hs)
      simp only [List.length_nil, Nat.add_zero] at h1
      simp only [Ty.depth, depthS] at hd
      have h2 := pty_text s k a (i + 1) _ ha (by omega) h1.2
      have h3 := drop_more h1.2
      have h4 := pty_text s k b (i + 1 + a.text.length + 1) _ hb (by omega) h3.2
      have h5 := drop_more h3.2
      rw [if_neg (by rw [h1.1]; decide), if_neg (by rw [h1.1]; decide), if_pos h1.1]
      simp only [ptys, h2, h3.1, h4, h5.1, if_true, Option.map_some, text_fun, List.length_cons, List.length_append, List.length_nil]
      congr 2
      omega
    · rw [text_code] at hs
      have h1 := drop_more (x := []) (i := i) (c := 60) (r := a.text ++ 62 :: r) (by simpa using hs)
      simp only [List.length_nil, Nat.add_zero] at h1
      simp only [Ty.depth, depthS] at hd
      have h2 := pty_text s k a (i + 1) _ ha (by omega) h1.2
      have h3 := drop_more h1.2
      rw [if_neg (by rw [h1.1]; decide), if_neg (by rw [h1.1]; decide), if_neg (by rw [h1.1]; decide), if_pos h1.1]
      simp only [ptys, h2, h3.1, if_true, Option.map_some, text_code, List.length_cons, List.length_append, List.length_nil]
      congr 2
      omega

/-- What FormatType answers, and ParseType. -/
def fmtT (t : Ty) : List UInt8 := if t.valid then t.text else []
def parseT (s : List UInt8) : Option Ty := match pty s 8 0 with
  | none => none
  | some (t, j) => if j = s.length ∧ t.valid = true then some t else none
theorem parse_fmt (t : Ty) : parseT (fmtT t) = if t.valid then some t else none := by
  unfold parseT fmtT
  by_cases h : t.valid = true
  · obtain ⟨_, h2, h3⟩ := (valid_iff t).1 h
    rw [if_pos h, if_pos h, pty_text t.text 8 t 0 [] h3 h2 (by simp)]
    simp [h]
  · rw [if_neg h, if_neg h]
    rfl
theorem fmt_parse {s : List UInt8} {t : Ty} (h : parseT s = some t) : fmtT t = s ∧ t.valid = true := by
  unfold parseT at h
  cases hp : pty s 8 0 with
  | none => rw [hp] at h; cases h
  | some r =>
    obtain ⟨u, j⟩ := r
    rw [hp] at h
    dsimp only at h
    split at h
    · next hc =>
      obtain rfl := Option.some.inj h
      have g := (pty_good s _ _ _ _ hp).text
      rw [hc.1] at g
      simp only [List.drop_zero, List.drop_length, List.append_nil] at g
      exact ⟨by rw [fmtT, if_pos hc.2, g], hc.2⟩
    · cases h
/-- The model's test. -/
theorem parse_test {s : List UInt8} {t : Ty} {j : Nat} (h : pty s 8 0 = some (t, j)) (hj : j = s.length) : fmtT t = s ↔ t.valid = true := by
  have g := pty_good s _ _ _ _ h
  have gt := g.text
  have := g.lt
  subst hj
  simp only [List.drop_zero, List.drop_length, List.append_nil] at gt
  unfold fmtT
  by_cases hv : t.valid = true
  · rw [if_pos hv]; exact ⟨fun _ => hv, fun _ => gt.symm⟩
  · rw [if_neg hv]
    exact ⟨fun e => by rw [← e] at this; simp at this, fun e => absurd e hv⟩
theorem parse_of {s : List UInt8} {t : Ty} {j : Nat} (h : pty s 8 0 = some (t, j)) : parseT s = if j = s.length ∧ t.valid = true then some t else none := by rw [parseT, h]
theorem parse_no {s : List UInt8} (h : pty s 8 0 = none) : parseT s = none := by rw [parseT, h]
theorem parse_small (s : List UInt8) : nodesS ((parseT s).getD (.mk 0 [])).args ≤ 256 := by
  cases h : parseT s with
  | none => simp [nodesS]
  | some t =>
    have hv := (fmt_parse h).2
    have := ((valid_iff t).1 hv).1
    rw [t.nodes_eq] at this
    simp only [Option.getD_some]
    omega
end Go.Proofs.YtdofjnjiandcbaaDoor
/- TmSpec: The contracts of the model's SizeOf, DepthOf, l5Left: what they answer at a term in memory. -/
namespace Go.Proofs.YtdofjnjiandcbaaDoor
open Go Go.RowKit

mutual
def Tm.depth : Tm → Nat
  | .mk _ _ _ _ _ _ ts => 1 + depthM ts
def depthM : List Tm → Nat
  | [] => 0
  | t :: ts => max t.depth (depthM ts)
end
theorem Tm.depth_eq (t : Tm) : t.depth = 1 + depthM t.args := by cases t; simp [Tm.depth, Tm.args]
theorem depthM_append (a b : List Tm) : depthM (a ++ b) = max (depthM a) (depthM b) := by
  induction a with
  | nil => simp [depthM]
  | cons x a ih => simp only [List.cons_append, depthM, ih]; omega
theorem depthM_take (ts : List Tm) (k : Nat) (h : k < ts.length) : depthM (ts.take (k + 1)) = max (depthM (ts.take k)) ts[k].depth := by
  rw [tm_take_next h, depthM_append]; simp [depthM]
mutual
theorem depthM_nodes : ∀ ts : List Tm, depthM ts ≤ nodesM ts
  | [] => Nat.le_refl _
  | t :: ts => by
    have h1 := Tm.depth_nodes t
    have h2 := depthM_nodes ts
    simp only [depthM, nodesM]
    omega
theorem Tm.depth_nodes : ∀ t : Tm, t.depth ≤ t.nodes
  | .mk k a b n t r ts => by
    have := depthM_nodes ts
    simp only [Tm.depth, Tm.nodes]
    omega
end
theorem leftM_stop {left L : Int} {a n : Nat} (h : LeftEnds (left - 1) a L) (hn : L < 0) (ha : a ≤ n) : LeftEnds left (1 + n) L := by
  unfold LeftEnds at *; omega
theorem box_rest {w w' : World} {A : Array Value} {T : TypeId} (h : Below (w.alloc (.cells A T)).heap.size (w.alloc (.cells A T)) w') : Below w.heap.size w w' :=
  (al_below w _).trans (h.mono (by simp))


set_option maxRecDepth 100000 in
set_option maxHeartbeats 1000000 in
theorem depthM_any {C : Nat → Prop} : ∀ (m : Nat) {t : Tm} {tp : Option Addr} {tc : Nat} {rp : Option Addr} {rc : Nat} {p : Option Addr} {c : Nat} (w : World), t.nodes ≤ m → TM' w C t tp tc rp rc p c → t.wt ≤ 2097152 → Calls Tryd.prog 40 #[tmV t tp tc rp rc p c] w (IntRet (fun r => r = ((t.depth : Nat) : Int)) w)
  | 0, t, tp, tc, rp, rc, p, c, w, hm, hT, hn => by rw [t.nodes_eq] at hm; omega
  | m + 1, t, tp, tc, rp, rc, p, c, w, hm, hT, hn => by
    have HT := Lib.hid hT
    have HX0 := Lib.hid (Bx9.new w t tp tc rp rc p c 35)
    have HB0 := Lib.hid (al_below w (.cells (tmC t tp tc rp rc p c) 35))
    have hne := t.nodes_eq
    have hwe := t.wt_eq
    have hlen := wtS_ge t.args
    have hnw := nodesM_wt t.args
    have HM := Lib.hid hm
    have HNE := Lib.hid hne
    have hwa : wtS t.args ≤ 2097152 := by omega
    clear hT hne hwe hm
    go_enter Tryd.func40, Tryd.ntmps40
    go_wp2_with fail
    go_loopw [3, 4] (fun n i wr => ∃ (k : Nat), k ≤ t.args.length ∧ i = .int .i64 k ∧ n = .int .i64 ((depthM (t.args.take k) : Nat) : Int) ∧ Below (w.alloc (.cells (tmC t tp tc rp rc p c) 35)).heap.size (w.alloc (.cells (tmC t tp tc rp rc p c) 35)) wr) (fun _ i _ => t.args.length - (intOf i).toNat)
    case atStart => exact ⟨0, Nat.zero_le _, rfl, by simp [depthM], Below.refl _ _⟩
    case round =>
      obtain ⟨k, hk, rfl, rfl, hbr⟩ := hrel
      have HBR := Lib.hid hbr
      have HB := Lib.hid (HB0.out.trans (hbr.mono HB0.out.size))
      obtain ⟨_, _, _, _, _, _, _, _, d8⟩ := HX0.out.keep hbr
      clear hbr
      by_cases hlk : k < t.args.length
      · obtain ⟨b, o, tp2, tc2, rp2, rc2, p2, c2, rfl, hC, hb, h9, hP⟩ := tm_part HT.out.args k hlk
        obtain ⟨g0, g1, g2, g3, g4, g5, g6, g7, g8⟩ := h9 wr (.of_below HB.out)
        have n1 := nodesM_take t.args k hlk
        have n2 := nodesM_take_le t.args (k + 1)
        have n4 := nodesM_at t.args k hlk
        have n5 := wtS_at t.args k hlk
        have hmk : t.args[k].nodes ≤ m := by have := HM.out; have := HNE.out; omega
        have hi0 : (0 : Int) ≤ (k : Int) := Int.natCast_nonneg _
        have hi1 : (k : Int) < (t.args.length : Int) := by omega
        have m2 := depthM_take t.args k hlk
        have m3 := depthM_nodes (t.args.take k)
        have m4 := t.args[k].depth_nodes
        have b1 : depthM (t.args.take k) ≤ 2097152 := by omega
        have b2 : t.args[k].depth ≤ 2097153 := by omega
        have HM2 := Lib.hid m2
        clear m2 m3 m4
        have HC := Lib.hid (depthM_any m wr hmk (hP.stays (.of_below HB.out)) (by omega))
        have HN1 := Lib.hid n1
        have HN2 := Lib.hid n2
        clear hC hb h9 hP n1 n2 n4 n5 hmk
        go_wp2_with fail
        refine HC.out.mono ?_
        rintro e w1 ⟨r, hr, rfl, hb1⟩
        have HB1 := Lib.hid (HBR.out.trans (hb1.mono HBR.out.size))
        clear hb1
        subst hr
        go_wp2_with fail
        refine (max_any _ _ _).mono ?_
        rintro e w2 ⟨rfl, rfl⟩
        go_wp2_with fail
        go_roundw
        case rel => exact ⟨k + 1, by omega, by go_num, by have h1 := HM2.out; rw [h1]; go_num, HB1.out⟩
        case measure => simp [intOf]; omega
      · obtain rfl : k = t.args.length := by omega
        rw [List.take_length]
        have b3 := depthM_nodes t.args
        have HDE := Lib.hid t.depth_eq
        go_wp2_with fail
        go_ret
        exact ⟨_, by rw [HDE.out]; go_num, rfl, box_rest HBR.out⟩


set_option maxRecDepth 100000 in
set_option maxHeartbeats 1000000 in
theorem leftM_any {C : Nat → Prop} : ∀ (m : Nat) {t : Tm} {tp : Option Addr} {tc : Nat} {rp : Option Addr} {rc : Nat} {p : Option Addr} {c : Nat} (w : World) (left : Int), t.nodes ≤ m → TM' w C t tp tc rp rc p c → t.wt ≤ 2097152 → 0 ≤ left → left ≤ 2097152 → Calls Tryd.prog 39 #[tmV t tp tc rp rc p c, .int .i64 left] w (IntRet (LeftEnds left t.nodes) w)
  | 0, t, tp, tc, rp, rc, p, c, w, left, hm, hT, hn, h0, hL => by rw [t.nodes_eq] at hm; omega
  | m + 1, t, tp, tc, rp, rc, p, c, w, left, hm, hT, hn, h0, hL => by
    have HT := Lib.hid hT
    have HX0 := Lib.hid (Bx9.new w t tp tc rp rc p c 35)
    have HB0 := Lib.hid (al_below w (.cells (tmC t tp tc rp rc p c) 35))
    have hne := t.nodes_eq
    have hwe := t.wt_eq
    have hlen := wtS_ge t.args
    have hnw := nodesM_wt t.args
    have HM := Lib.hid hm
    have HNE := Lib.hid hne
    have hwa : wtS t.args ≤ 2097152 := by omega
    clear hT hne hwe hm
    go_enter Tryd.func39, Tryd.ntmps39
    go_wp2_with fail
    go_loopw [1, 5] (fun l i wr => ∃ (k : Nat) (L : Int), k ≤ t.args.length ∧ i = .int .i64 k ∧ l = .int .i64 L ∧ LeftEnds (left - 1) (nodesM (t.args.take k)) L ∧ Below (w.alloc (.cells (tmC t tp tc rp rc p c) 35)).heap.size (w.alloc (.cells (tmC t tp tc rp rc p c) 35)) wr) (fun _ i _ => t.args.length - (intOf i).toNat)
    case atStart => exact ⟨0, _, Nat.zero_le _, rfl, rfl, leftEnds_start h0, Below.refl _ _⟩
    case round =>
      obtain ⟨k, L, hk, rfl, rfl, hle, hbr⟩ := hrel
      have HBR := Lib.hid hbr
      have HB := Lib.hid (HB0.out.trans (hbr.mono HB0.out.size))
      obtain ⟨_, _, _, _, _, _, _, _, d8⟩ := HX0.out.keep hbr
      clear hbr
      by_cases hlk : k < t.args.length
      · obtain ⟨b, o, tp2, tc2, rp2, rc2, p2, c2, rfl, hC, hb, h9, hP⟩ := tm_part HT.out.args k hlk
        obtain ⟨g0, g1, g2, g3, g4, g5, g6, g7, g8⟩ := h9 wr (.of_below HB.out)
        have n1 := nodesM_take t.args k hlk
        have n2 := nodesM_take_le t.args (k + 1)
        have n4 := nodesM_at t.args k hlk
        have n5 := wtS_at t.args k hlk
        have hmk : t.args[k].nodes ≤ m := by have := HM.out; have := HNE.out; omega
        have hi0 : (0 : Int) ≤ (k : Int) := Int.natCast_nonneg _
        have hi1 : (k : Int) < (t.args.length : Int) := by omega
        have HLE := Lib.hid hle
        have hLr := hle.range (by omega)
        clear hle
        by_cases hneg : L < 0
        · clear hC hb h9 hP n1 n4 n5 hmk
          go_wp2_with fail
          go_ret
          exact ⟨_, by rw [HNE.out]; exact leftM_stop HLE.out hneg (nodesM_take_le t.args k), rfl, box_rest HBR.out⟩
        have HC := Lib.hid (leftM_any m wr L hmk (hP.stays (.of_below HB.out)) (by omega) (by omega) (by omega))
        have HN1 := Lib.hid n1
        have HN2 := Lib.hid n2
        clear hC hb h9 hP n1 n2 n4 n5 hmk
        go_wp2_with fail
        refine HC.out.mono ?_
        rintro e w1 ⟨r, hr, rfl, hb1⟩
        have HB1 := Lib.hid (HBR.out.trans (hb1.mono HBR.out.size))
        clear hb1
        have hr2 := hr.range (by omega)
        have HR := Lib.hid hr
        clear hr
        go_wp2_with fail
        go_roundw
        case rel => exact ⟨k + 1, r, by omega, by go_num, rfl, by rw [HN1.out]; exact HLE.out.next HR.out (by omega), HB1.out⟩
        case measure => simp [intOf]; omega
      · obtain rfl : k = t.args.length := by omega
        rw [List.take_length] at hle
        have HLE := Lib.hid hle
        have hLr := hle.range (by omega)
        clear hle
        go_wp2_with fail
        go_ret
        exact ⟨_, by rw [HNE.out]; exact HLE.out.full, rfl, box_rest HBR.out⟩

end Go.Proofs.YtdofjnjiandcbaaDoor
/- Reduce: The contracts of Reduce, the program's and the model's: the remainder from 0 up to the modulus. -/
namespace Go.Proofs.YtdofjnjiandcbaaDoor
open Go Go.RowKit

theorem tmod_cases (n : Int) : n.tmod 10007 = n % 10007 ∧ 0 ≤ n ∨ n.tmod 10007 = -((-n) % 10007) ∧ n < 0 := by
  by_cases h : 0 ≤ n
  · exact Or.inl ⟨Int.tmod_eq_emod_of_nonneg h, h⟩
  · refine Or.inr ⟨?_, by omega⟩
    have e : n = -(-n) := by omega
    rw [e, Int.neg_tmod, Int.tmod_eq_emod_of_nonneg (by omega)]
    simp
theorem red_I (n : Int) : (wrap64 (n.tmod 10007 + 10007)).tmod 10007 = n % 10007 := by
  have hw : wrap64 (n.tmod 10007 + 10007) = n.tmod 10007 + 10007 := by
    rcases tmod_cases n with ⟨h, _⟩ | ⟨h, _⟩ <;> · rw [h]; unfold wrap64; omega
  rw [hw, Int.tmod_eq_emod_of_nonneg (by rcases tmod_cases n with ⟨h, _⟩ | ⟨h, _⟩ <;> omega)]
  rcases tmod_cases n with ⟨h, _⟩ | ⟨h, _⟩ <;> omega
theorem red_S (n : Int) (h : n.tmod 10007 < 0) : wrap64 (n.tmod 10007 + 10007) = n % 10007 := by
  have hw : wrap64 (n.tmod 10007 + 10007) = n.tmod 10007 + 10007 := by
    rcases tmod_cases n with ⟨h, _⟩ | ⟨h, _⟩ <;> · rw [h]; unfold wrap64; omega
  rw [hw]
  rcases tmod_cases n with ⟨h, _⟩ | ⟨h, _⟩ <;> omega
theorem red_S0 (n : Int) (h : 0 ≤ n.tmod 10007) : n.tmod 10007 = n % 10007 := by
  rcases tmod_cases n with ⟨h, _⟩ | ⟨h, _⟩ <;> omega
theorem ret_int {a b : Int} (h : a = b) : Ending.returned (.int .i64 a) = Ending.returned (.int .i64 b) := by rw [h]

set_option maxHeartbeats 400000 in
theorem redI_any (n : Int) (w : World) :
    Calls Tryd.prog 53 #[.int .i64 n] w fun e w' => e = .returned (.int .i64 (n % 10007)) ∧ w' = w := by
  go_enter Tryd.func53, Tryd.ntmps53
  go_wp2
  go_ret
  exact ⟨ret_int (red_I n), rfl⟩

end Go.Proofs.YtdofjnjiandcbaaDoor
/- Apply: The contracts of ApplyOp, the program's and the model's, and the walk of the law on it. -/
namespace Go.Proofs.YtdofjnjiandcbaaDoor
open Go Go.RowKit

def bit (x : Bool) : Int := if x then 1 else 0
/-- What an operation gives at two numbers of the language. -/
def apOp (op : ByteArray) (a b : Int) : Int × Bool :=
  if op.toList == [43] then ((a + b) % 10007, true)
  else if op.toList == [45] then ((a - b) % 10007, true)
  else if op.toList == [42] then ((a * b) % 10007, true)
  else if op.toList == [61] then (bit (a == b), true)
  else if op.toList == [60] then (bit (decide (a < b)), true)
  else if op.toList == [38] then (bit (a == 1 && b == 1), true)
  else if op.toList == [124] then (bit (a == 1 || b == 1), true)
  else if op.toList == [33] then (bit (a == 0), true)
  else (0, false)
def ap (op : ByteArray) (a b : Int) : Int × Bool := if 0 ≤ a ∧ a < 10007 ∧ 0 ≤ b ∧ b < 10007 then apOp op a b else (0, false)
def pairOf (p : Int × Bool) : Value := .tuple #[.int .i64 p.1, .bool p.2]

theorem in_any (n lo hi : Int) (w : World) : Calls Tryd.prog 44 #[.int .i64 n, .int .i64 lo, .int .i64 hi] w fun e w' => e = .returned (.bool (decide (lo ≤ n ∧ n ≤ hi))) ∧ w' = w := by
  obtain ⟨r, hr⟩ : ∃ r, r = decide (lo ≤ n ∧ n ≤ hi) := ⟨_, rfl⟩
  rw [← hr]
  by_cases h : lo ≤ n
  · have e : decide (n ≤ hi) = r := by rw [hr]; simp [h]
    have t : decide (lo ≤ n) = true := by simpa using h
    have E := Lib.hid e
    clear e hr
    go_enter Tryd.func44, Tryd.ntmps44
    go_wp2
    go_ret
    exact ⟨by rw [← E.out]; rfl, rfl⟩
  · have e : false = r := by rw [hr]; simp [h]
    have t : decide (lo ≤ n) = false := by simpa using h
    subst e
    clear hr
    go_enter Tryd.func44, Tryd.ntmps44
    go_wp2
    go_ret
    exact ⟨rfl, rfl⟩

/-- One of the numbers of the language. -/
def Num (a : Int) : Prop := 0 ≤ a ∧ a < 10007
theorem redI_num (a : Int) (w : World) (h : Num a) : Calls Tryd.prog 53 #[.int .i64 a] w fun e w' => e = .returned (.int .i64 a) ∧ w' = w := by
  have h1 := redI_any a w
  rw [show a % 10007 = a from Int.emod_eq_of_lt h.1 h.2] at h1
  exact h1
theorem redI_not (a : Int) (w : World) (h : ¬ Num a) : Calls Tryd.prog 53 #[.int .i64 a] w fun e w' => ∃ r : Int, (a != r) = true ∧ e = .returned (.int .i64 r) ∧ w' = w :=
  (redI_any a w).mono fun e w' ⟨he, hw⟩ => ⟨a % 10007, by
    rw [bne_iff_ne]
    intro hc
    exact h ⟨by omega, by omega⟩, he, hw⟩

theorem mul_in {a b : Int} (ha : 0 ≤ a) (ha1 : a < 10007) (hb : 0 ≤ b) (hb1 : b < 10007) : wrap64 (a * b) = a * b := by
  have h1 := Int.mul_nonneg ha hb
  have h2 := Int.mul_le_mul (show a ≤ 10006 by omega) (show b ≤ 10006 by omega) hb (by decide)
  unfold wrap64
  omega

theorem in_num (a : Int) (w : World) (h : Num a) : Calls Tryd.prog 44 #[.int .i64 a, .int .i64 0, .int .i64 10006] w fun e w' => e = .returned (.bool true) ∧ w' = w := by
  have h1 := in_any a 0 10006 w
  rw [show decide (0 ≤ a ∧ a ≤ 10006) = true from decide_eq_true ⟨h.1, by have := h.2; omega⟩] at h1
  exact h1
theorem in_not (a : Int) (w : World) (h : ¬ Num a) : Calls Tryd.prog 44 #[.int .i64 a, .int .i64 0, .int .i64 10006] w fun e w' => e = .returned (.bool false) ∧ w' = w := by
  have h1 := in_any a 0 10006 w
  rw [show decide (0 ≤ a ∧ a ≤ 10006) = false from decide_eq_false (fun hc => h ⟨hc.1, by have := hc.2; omega⟩)] at h1
  exact h1

end Go.Proofs.YtdofjnjiandcbaaDoor
/- IsName: The contracts of IsName, the program's and the model's, and the walk of the law on it. -/
namespace Go.Proofs.YtdofjnjiandcbaaDoor
open Go Go.RowKit

/-- The k-th byte may stand there in a name. -/
def okAt (s : ByteArray) (k : Nat) : Prop := ∀ h : k < s.size, (97 ≤ (s[k]'h).toNat ∧ (s[k]'h).toNat ≤ 122) ∨ (1 ≤ k ∧ 48 ≤ (s[k]'h).toNat ∧ (s[k]'h).toNat ≤ 57)
def Res (s : ByteArray) : Prop := s.toList = [105, 102] ∨ s.toList = [108, 101, 116] ∨ s.toList = [108, 105, 102, 116] ∨ s.toList = [114, 101, 99] ∨ s.toList = [114, 117, 110]
structure Nm (s : ByteArray) : Prop where
  ok : ∀ k, okAt s k
  lo : 1 ≤ s.size
  hi : s.size ≤ 4
  free : ¬ Res s
def Tells (p : Prop) (w : World) (e : Ending) (w' : World) : Prop := ∃ r : Bool, (r = true ↔ p) ∧ e = .returned (.bool r) ∧ Below w.heap.size w w'
theorem tells_no {p : Prop} (h : ¬ p) : (false = true ↔ p) := ⟨fun hc => (by cases hc), fun hp => absurd hp h⟩
theorem tells_yes {p : Prop} (h : p) : (true = true ↔ p) := ⟨fun _ => h, fun _ => rfl⟩
theorem lst {a b : List UInt8} (h : (a == b) = true) : a = b := by simpa using h
theorem nlst {a b : List UInt8} (h : (a == b) = false) : a ≠ b := by simpa using h

set_option maxHeartbeats 400000 in
theorem res_any (s : ByteArray) (w : World) : Calls Tryd.prog 65 #[.string s] w (Tells (Res s) w) := by
  go_enter Tryd.func65, Tryd.ntmps65
  go_wp2
  all_goals
    go_ret
    first
    | exact ⟨true, tells_yes (by unfold Res; simp_all), rfl, Below.refl _ _⟩
    | exact ⟨false, tells_no (by unfold Res; simp_all), rfl, Below.refl _ _⟩

theorem res_0 {s : ByteArray} (h : s.toList = [105, 102]) : (s.toList == [105, 102]) = true ∧ (s.toList == [108, 101, 116]) = false ∧ (s.toList == [108, 105, 102, 116]) = false ∧ (s.toList == [114, 101, 99]) = false ∧ (s.toList == [114, 117, 110]) = false := by rw [h]; exact ⟨rfl, rfl, rfl, rfl, rfl⟩
theorem res_1 {s : ByteArray} (h : s.toList = [108, 101, 116]) : (s.toList == [105, 102]) = false ∧ (s.toList == [108, 101, 116]) = true ∧ (s.toList == [108, 105, 102, 116]) = false ∧ (s.toList == [114, 101, 99]) = false ∧ (s.toList == [114, 117, 110]) = false := by rw [h]; exact ⟨rfl, rfl, rfl, rfl, rfl⟩
theorem res_2 {s : ByteArray} (h : s.toList = [108, 105, 102, 116]) : (s.toList == [105, 102]) = false ∧ (s.toList == [108, 101, 116]) = false ∧ (s.toList == [108, 105, 102, 116]) = true ∧ (s.toList == [114, 101, 99]) = false ∧ (s.toList == [114, 117, 110]) = false := by rw [h]; exact ⟨rfl, rfl, rfl, rfl, rfl⟩
theorem res_3 {s : ByteArray} (h : s.toList = [114, 101, 99]) : (s.toList == [105, 102]) = false ∧ (s.toList == [108, 101, 116]) = false ∧ (s.toList == [108, 105, 102, 116]) = false ∧ (s.toList == [114, 101, 99]) = true ∧ (s.toList == [114, 117, 110]) = false := by rw [h]; exact ⟨rfl, rfl, rfl, rfl, rfl⟩
theorem res_4 {s : ByteArray} (h : s.toList = [114, 117, 110]) : (s.toList == [105, 102]) = false ∧ (s.toList == [108, 101, 116]) = false ∧ (s.toList == [108, 105, 102, 116]) = false ∧ (s.toList == [114, 101, 99]) = false ∧ (s.toList == [114, 117, 110]) = true := by rw [h]; exact ⟨rfl, rfl, rfl, rfl, rfl⟩
theorem res_no {s : ByteArray} (h : ¬ Res s) : (s.toList == [105, 102]) = false ∧ (s.toList == [108, 101, 116]) = false ∧ (s.toList == [108, 105, 102, 116]) = false ∧ (s.toList == [114, 101, 99]) = false ∧ (s.toList == [114, 117, 110]) = false := by
  unfold Res at h
  simp only [not_or] at h
  exact ⟨by simpa using h.1, by simpa using h.2.1, by simpa using h.2.2.1, by simpa using h.2.2.2.1, by simpa using h.2.2.2.2⟩
theorem at_zero {k : Nat} (h : k = 0) : ((k : Int) == 0) = true := by rw [h]; rfl
theorem at_more {k : Nat} (h : 1 ≤ k) : ((k : Int) == 0) = false := by rw [beq_eq_false_iff_ne]; omega
theorem ok_letter {s : ByteArray} {k : Nat} {hk : k < s.size} (h1 : 97 ≤ (s[k]'hk).toNat) (h2 : (s[k]'hk).toNat ≤ 122) : okAt s k := fun _ => Or.inl ⟨h1, h2⟩
theorem ok_digit {s : ByteArray} {k : Nat} {hk : k < s.size} (h0 : 1 ≤ k) (h1 : 48 ≤ (s[k]'hk).toNat) (h2 : (s[k]'hk).toNat ≤ 57) : okAt s k := fun _ => Or.inr ⟨h0, h1, h2⟩
theorem ok_bad {s : ByteArray} {k : Nat} {hk : k < s.size} (h1 : (s[k]'hk).toNat < 97 ∨ 122 < (s[k]'hk).toNat) (h2 : k = 0 ∨ (s[k]'hk).toNat < 48 ∨ 57 < (s[k]'hk).toNat) : ¬ Nm s := fun h => by
  have := h.ok k hk
  omega
theorem ok_next {s : ByteArray} {k : Nat} (h : ∀ j, j < k → okAt s j) (h1 : okAt s k) : ∀ j, j < k + 1 → okAt s j := fun j hj => by
  by_cases e : j = k
  · rw [e]; exact h1
  · exact h j (by omega)
theorem ok_end {s : ByteArray} {k : Nat} (h : ∀ j, j < k → okAt s j) (hk : s.size ≤ k) : ∀ j, okAt s j := fun j => by
  by_cases e : j < k
  · exact h j e
  · exact fun hj => absurd hj (by omega)

set_option maxRecDepth 100000 in
set_option maxHeartbeats 1000000 in
theorem nmS_any (s : ByteArray) (w : World) (hs : s.size ≤ 9223372036854775807) : Calls Tryd.prog 63 #[.string s] w (Tells (Nm s) w) := by
  go_enter Tryd.func63, Tryd.ntmps63
  go_wp2_with fail
  go_loop [3] (fun i => ∃ k : Nat, k ≤ s.size ∧ i = .int .i64 k ∧ Hid (∀ j, j < k → okAt s j)) (fun i => s.size - (intOf i).toNat)
  case atStart => exact ⟨0, Nat.zero_le _, rfl, Lib.hid (fun j hj => absurd hj (Nat.not_lt_zero j))⟩
  case round =>
    obtain ⟨k, hk, rfl, HK⟩ := hrel
    by_cases hlk : k < s.size
    · by_cases hlet : 97 ≤ s[k].toNat ∧ s[k].toNat ≤ 122
      · obtain ⟨l1, l2⟩ := hlet
        have HN := Lib.hid (ok_next HK.out (ok_letter l1 l2))
        go_wp2_with fail
        go_round
        case rel => exact ⟨k + 1, by omega, by go_num, HN⟩
        case measure => simp [intOf]; omega
      · by_cases hdig : 1 ≤ k ∧ 48 ≤ s[k].toNat ∧ s[k].toNat ≤ 57
        · obtain ⟨d0, d1, d2⟩ := hdig
          have HN := Lib.hid (ok_next HK.out (ok_digit d0 d1 d2))
          have t := at_more d0
          clear hlet
          go_wp2_with fail
          go_round
          case rel => exact ⟨k + 1, by omega, by go_num, HN⟩
          case measure => simp [intOf]; omega
        · have HN := Lib.hid (ok_bad (s := s) (k := k) (hk := hlk) (by omega) (by omega))
          rcases (show s[k].toNat < 97 ∨ 122 < s[k].toNat by omega) with b1 | b1
          all_goals rcases (show k = 0 ∨ (1 ≤ k ∧ s[k].toNat < 48) ∨ (1 ≤ k ∧ 57 < s[k].toNat) by omega) with b2 | ⟨b2, b3⟩ | ⟨b2, b3⟩
          all_goals clear hdig hlet
          · subst b2
            have t2 : decide ((97 : Int) ≤ (s[0].toNat : Int)) = false := by simp; omega
            go_wp2_with fail
            go_ret
            exact ⟨false, tells_no HN.out, rfl, Below.refl _ _⟩
          · have t := at_more b2
            have t2 : decide ((97 : Int) ≤ (s[k].toNat : Int)) = false := by simp; omega
            go_wp2_with fail
            go_ret
            exact ⟨false, tells_no HN.out, rfl, Below.refl _ _⟩
          · have t := at_more b2
            have t2 : decide ((97 : Int) ≤ (s[k].toNat : Int)) = false := by simp; omega
            go_wp2_with fail
            go_ret
            exact ⟨false, tells_no HN.out, rfl, Below.refl _ _⟩
          · subst b2
            have t2 : decide ((s[0].toNat : Int) ≤ 122) = false := by simp; omega
            go_wp2_with fail
            go_ret
            exact ⟨false, tells_no HN.out, rfl, Below.refl _ _⟩
          · exfalso; omega
          · have t := at_more b2
            have t2 : decide ((s[k].toNat : Int) ≤ 122) = false := by simp; omega
            go_wp2_with fail
            go_ret
            exact ⟨false, tells_no HN.out, rfl, Below.refl _ _⟩
    · obtain rfl : k = s.size := by omega
      have HN := Lib.hid (ok_end HK.out (Nat.le_refl _))
      go_wp2_with fail
      refine (in_any _ _ _ _).mono ?_
      rintro e w1 ⟨rfl, rfl⟩
      by_cases hsz : 1 ≤ s.size ∧ s.size ≤ 4
      · have t : decide (1 ≤ (s.size : Int) ∧ (s.size : Int) ≤ 4) = true := decide_eq_true (by omega)
        rw [t]
        clear t
        by_cases hres : Res s
        · have HX := Lib.hid (show ¬ Nm s from fun h => h.free hres)
          rcases hres with h | h | h | h | h
          · obtain ⟨t1, t2, t3, t4, t5⟩ := res_0 h
            clear h
            go_wp2_with fail
            go_ret
            exact ⟨false, tells_no HX.out, rfl, Below.refl _ _⟩
          · obtain ⟨t1, t2, t3, t4, t5⟩ := res_1 h
            clear h
            go_wp2_with fail
            go_ret
            exact ⟨false, tells_no HX.out, rfl, Below.refl _ _⟩
          · obtain ⟨t1, t2, t3, t4, t5⟩ := res_2 h
            clear h
            go_wp2_with fail
            go_ret
            exact ⟨false, tells_no HX.out, rfl, Below.refl _ _⟩
          · obtain ⟨t1, t2, t3, t4, t5⟩ := res_3 h
            clear h
            go_wp2_with fail
            go_ret
            exact ⟨false, tells_no HX.out, rfl, Below.refl _ _⟩
          · obtain ⟨t1, t2, t3, t4, t5⟩ := res_4 h
            clear h
            go_wp2_with fail
            go_ret
            exact ⟨false, tells_no HX.out, rfl, Below.refl _ _⟩
        · have HX := Lib.hid (show Nm s from ⟨HN.out, hsz.1, hsz.2, hres⟩)
          obtain ⟨t1, t2, t3, t4, t5⟩ := res_no hres
          clear hres
          go_wp2_with fail
          go_ret
          exact ⟨true, tells_yes HX.out, rfl, Below.refl _ _⟩
      · have t : decide (1 ≤ (s.size : Int) ∧ (s.size : Int) ≤ 4) = false := decide_eq_false (by omega)
        rw [t]
        clear t
        have HZ := Lib.hid (show ¬ Nm s from fun h => hsz ⟨h.lo, h.hi⟩)
        clear hsz
        go_wp2_with fail
        go_ret
        exact ⟨false, tells_no HZ.out, rfl, Below.refl _ _⟩
end Go.Proofs.YtdofjnjiandcbaaDoor
/- TmNode: The contracts of the model's OpArity, l5Arity, l5Zero, l5Names: what a node of a term must be. -/
namespace Go.Proofs.YtdofjnjiandcbaaDoor
open Go Go.RowKit

def opAr (l : List UInt8) : Int :=
  if l = [43] then 2 else if l = [45] then 2 else if l = [42] then 2 else if l = [61] then 2 else if l = [60] then 2 else if l = [38] then 2 else if l = [124] then 2 else if l = [33] then 1 else 0
theorem opAr_range (l : List UInt8) : 0 ≤ opAr l ∧ opAr l ≤ 2 := by
  unfold opAr
  repeat' split
  all_goals omega
/-- The number of parts of a node. -/
def arK (k o : Int) : Int :=
  if k = 1 then 0 else if k = 2 then 0 else if k = 3 then 0 else if k = 4 then o else if k = 6 then 1 else if k = 9 then 1 else if k = 10 then 1 else if k = 11 then 1 else if k = 12 then 1 else if k = 13 then 1 else if k = 7 then 2 else if k = 8 then 2 else if k = 5 then 3 else -1
def Tm.arity (t : Tm) : Int := arK t.kind (opAr t.name.toList)
theorem arK_range (k o : Int) (h : 0 ≤ o ∧ o ≤ 2) : -1 ≤ arK k o ∧ arK k o ≤ 3 := by
  unfold arK
  repeat' split
  all_goals omega

set_option maxRecDepth 100000 in
set_option maxHeartbeats 1000000 in
theorem opArS_any (s : ByteArray) (w : World) : Calls Tryd.prog 46 #[.string s] w fun e w' => e = .returned (.int .i64 (opAr s.toList)) ∧ w' = w := by
  go_enter Tryd.func46, Tryd.ntmps46
  go_wp2
  all_goals
    go_ret
    exact ⟨by unfold opAr; simp_all, rfl⟩

set_option maxRecDepth 100000 in
set_option maxHeartbeats 2000000 in
theorem arityS_any (t : Tm) (tp : Option Addr) (tc : Nat) (rp : Option Addr) (rc : Nat) (p : Option Addr) (c : Nat) (w : World) :
    Calls Tryd.prog 28 #[tmV t tp tc rp rc p c] w fun e w' => e = .returned (.int .i64 t.arity) ∧ Below w.heap.size w w' := by
  have HB := Lib.hid (al_below w (.cells (tmC t tp tc rp rc p c) 35))
  go_enter Tryd.func28, Tryd.ntmps28
  go_wp2_with (first | (go_at_call 46; refine (opArS_any _ _).mono ?_; rintro e w' ⟨rfl, rfl⟩))
  all_goals
    go_ret
    exact ⟨by unfold Tm.arity arK; simp_all, HB.out⟩

set_option maxRecDepth 100000 in
set_option maxHeartbeats 1000000 in
theorem zeroS_any (k : Int) (p : Option Addr) (n c : Nat) (w : World) : Calls Tryd.prog 43 #[.agg #[.int .i64 k, .slice p n c]] w (Tells (k = 0 ∧ n = 0) w) := by
  have HB := Lib.hid (al_below w (.cells #[.int .i64 k, .slice p n c] 32))
  go_enter Tryd.func43, Tryd.ntmps43
  by_cases hk : k = 0
  · subst hk
    go_wp2_with fail
    go_ret
    exact ⟨_, by simp, rfl, HB.out⟩
  · have hk1 : (k == 0) = false := by simpa using hk
    go_wp2_with fail
    go_ret
    exact ⟨_, by simp [hk], rfl, HB.out⟩

/-- The names are those that the kind asks for. -/
def Tm.namesOk (t : Tm) : Prop :=
  if t.kind = 4 then 0 < opAr t.name.toList ∧ t.other.toList = [] else if t.kind = 1 ∨ t.kind = 6 ∨ t.kind = 8 then Nm t.name ∧ t.other.toList = []
  else if t.kind = 9 then Nm t.name ∧ Nm t.other ∧ t.name ≠ t.other else t.name.toList = [] ∧ t.other.toList = []
theorem emp_cases (s : ByteArray) : (s.toList = [] ∧ s.toList.isEmpty = true) ∨ (¬ s.toList = [] ∧ s.toList.isEmpty = false) := by
  cases h : s.toList <;> simp
end Go.Proofs.YtdofjnjiandcbaaDoor
/- TmNode2: The contracts of the model's l5Names and l5Fields. -/
namespace Go.Proofs.YtdofjnjiandcbaaDoor
open Go Go.RowKit

theorem emp_iff (s : ByteArray) : s.toList.isEmpty = true ↔ s.toList = [] := by simp
theorem b_and {a b : Prop} {x y : Bool} (hx : x = true ↔ a) (hy : y = true ↔ b) : ((x && y) = true ↔ a ∧ b) := by rw [Bool.and_eq_true, hx, hy]
theorem b_not {a : Prop} {x : Bool} (hx : x = true ↔ a) : ((!x) = true ↔ ¬ a) := by rw [Bool.not_eq_true', ← Bool.not_eq_true, hx]
theorem names_4 {t : Tm} (h : t.kind = 4) : t.namesOk ↔ 0 < opAr t.name.toList ∧ t.other.toList = [] := by rw [Tm.namesOk, if_pos h]
theorem names_1 {t : Tm} (h4 : ¬ t.kind = 4) (h : t.kind = 1 ∨ t.kind = 6 ∨ t.kind = 8) : t.namesOk ↔ Nm t.name ∧ t.other.toList = [] := by rw [Tm.namesOk, if_neg h4, if_pos h]
theorem names_9 {t : Tm} (h4 : ¬ t.kind = 4) (h1 : ¬ (t.kind = 1 ∨ t.kind = 6 ∨ t.kind = 8)) (h : t.kind = 9) : t.namesOk ↔ Nm t.name ∧ Nm t.other ∧ t.name ≠ t.other := by rw [Tm.namesOk, if_neg h4, if_neg h1, if_pos h]
theorem names_0 {t : Tm} (h4 : ¬ t.kind = 4) (h1 : ¬ (t.kind = 1 ∨ t.kind = 6 ∨ t.kind = 8)) (h : ¬ t.kind = 9) : t.namesOk ↔ t.name.toList = [] ∧ t.other.toList = [] := by rw [Tm.namesOk, if_neg h4, if_neg h1, if_neg h]
theorem lit_t {p : Prop} (h : p) : (true = true ↔ p) := ⟨fun _ => h, fun _ => rfl⟩
theorem lit_f {p : Prop} (h : ¬ p) : (false = true ↔ p) := ⟨fun e => (by cases e), fun e => absurd e h⟩

set_option maxRecDepth 100000 in
set_option maxHeartbeats 2000000 in
theorem namesS_any (t : Tm) (tp : Option Addr) (tc : Nat) (rp : Option Addr) (rc : Nat) (p : Option Addr) (c : Nat) (w : World) (h1 : t.name.size ≤ 9223372036854775807) (h2 : t.other.size ≤ 9223372036854775807) :
    Calls Tryd.prog 45 #[tmV t tp tc rp rc p c] w (Tells t.namesOk w) := by
  have HB := Lib.hid (al_below w (.cells (tmC t tp tc rp rc p c) 35))
  have HX := Lib.hid (Bx9.new w t tp tc rp rc p c 35)
  have HNM := Lib.hid (nmS_any t.name (w.alloc (.cells (tmC t tp tc rp rc p c) 35)) h1)
  have HNO := Lib.hid (fun W => nmS_any t.other W h2)
  have HAR := Lib.hid (opAr_range t.name.toList)
  cases hb : t.other.toList.isEmpty
  all_goals
    cases hd : t.name.toList.isEmpty
  all_goals
    have HE := Lib.hid (emp_iff t.other)
    have HN := Lib.hid (emp_iff t.name)
    rw [hb] at HE
    rw [hd] at HN
    go_enter Tryd.func45, Tryd.ntmps45
    by_cases k4 : t.kind = 4
    · have a4 : 4 ≤ t.kind := by omega
      have b4 : t.kind ≤ 4 := by omega
      have HK := Lib.hid k4
      clear k4
      by_cases ha : 0 < opAr t.name.toList
      all_goals
        go_wp2_with (first | (go_at_call 46; refine (opArS_any _ _).mono ?_; rintro e w' ⟨rfl, rfl⟩))
        go_ret
        refine ⟨_, ?_, rfl, HB.out⟩
        have h2 := HE.out
        simp only [true_iff, false_iff, Bool.false_eq_true] at h2
        rw [names_4 HK.out]
        simp [ha, h2]
    have HK4 := Lib.hid k4
    by_cases k1 : t.kind = 1 ∨ t.kind = 6 ∨ t.kind = 8
    · have HK := Lib.hid k1
      rcases k1 with k | k | k
      all_goals
        have ak := Int.le_of_eq k
        have bk := Int.le_of_eq k.symm
        clear k k4
        go_wp2_with fail
        refine HNM.out.mono ?_
        rintro e w1 ⟨r, hr, rfl, hb1⟩
        have HR := Lib.hid hr
        have HB1 := Lib.hid (HB.out.trans (hb1.mono HB.out.size))
        obtain ⟨g0, g1, g2, g3, g4, g5, g6, g7, g8⟩ := HX.out.keep hb1
        clear hr hb1
        cases r
        all_goals
          go_wp2_with fail
          go_ret
          refine ⟨_, ?_, rfl, HB1.out⟩
          have h1 := HR.out
          have h2 := HE.out
          simp only [true_iff, false_iff, Bool.false_eq_true] at h1 h2
          rw [names_1 HK4.out HK.out]
          simp [h1, h2]
    have HK1 := Lib.hid k1
    have m1 : ¬ t.kind = 1 := fun e => k1 (Or.inl e)
    have m6 : ¬ t.kind = 6 := fun e => k1 (Or.inr (Or.inl e))
    have m8 : ¬ t.kind = 8 := fun e => k1 (Or.inr (Or.inr e))
    clear k1
    by_cases k9 : t.kind = 9
    · have a9 := Int.le_of_eq k9
      have b9 := Int.le_of_eq k9.symm
      have HK := Lib.hid k9
      clear k9 k4 m1 m6 m8
      go_wp2_with fail
      refine HNM.out.mono ?_
      rintro e w1 ⟨r, hr, rfl, hb1⟩
      have HR := Lib.hid hr
      have HB1 := Lib.hid (HB.out.trans (hb1.mono HB.out.size))
      have HX1 := Lib.hid (HX.out.keep hb1)
      obtain ⟨g0, g1, g2, g3, g4, g5, g6, g7, g8⟩ := HX.out.keep hb1
      clear hr hb1
      cases r
      · go_wp2_with fail
        go_ret
        refine ⟨_, ?_, rfl, HB1.out⟩
        have h1 := HR.out
        simp only [false_iff, Bool.false_eq_true] at h1
        rw [names_9 HK4.out HK1.out HK.out]
        simp [h1]
      · go_wp2_with fail
        refine (HNO.out w1).mono ?_
        rintro e w2 ⟨r2, hr2, rfl, hb2⟩
        have HR2 := Lib.hid hr2
        have HB2 := Lib.hid (HB1.out.trans (hb2.mono HB1.out.size))
        clear g0 g1 g2 g3 g4 g5 g6 g7 g8
        obtain ⟨g0, g1, g2, g3, g4, g5, g6, g7, g8⟩ := HX1.out.keep hb2
        clear hr2 hb2
        by_cases hq : t.name = t.other
        · have hq1 := str_yes hq
          have HQ := Lib.hid hq
          clear hq
          cases r2
          all_goals
            go_wp2_with fail
            go_ret
            refine ⟨_, ?_, rfl, HB2.out⟩
            have h3 := HQ.out
            rw [names_9 HK4.out HK1.out HK.out]
            simp [h3]
        · have hq1 := str_no hq
          have HQ := Lib.hid hq
          clear hq
          cases r2
          all_goals
            go_wp2_with fail
            go_ret
            refine ⟨_, ?_, rfl, HB2.out⟩
            have h1 := HR.out
            have h2 := HR2.out
            have h3 := HQ.out
            simp only [true_iff, false_iff, Bool.false_eq_true] at h1 h2
            rw [names_9 HK4.out HK1.out HK.out]
            simp [h1, h2, h3]
    · have HK := Lib.hid k9
      go_wp2_with fail
      go_ret
      refine ⟨_, ?_, rfl, HB.out⟩
      have h1 := HN.out
      have h2 := HE.out
      simp only [true_iff, false_iff, Bool.false_eq_true] at h1 h2
      rw [names_0 HK4.out HK1.out HK.out]
      simp [h1, h2]
end Go.Proofs.YtdofjnjiandcbaaDoor
/- TmFields0: The contract of the model's l5Fields: the fields of a node are those of its kind. -/
namespace Go.Proofs.YtdofjnjiandcbaaDoor
open Go Go.RowKit

def zeroT (t : Ty) : Prop := t.kind = 0 ∧ t.args.length = 0
def Tm.most (t : Tm) : Int := if t.kind = 2 then 10006 else if t.kind = 3 then 1 else 0
structure Tm.FieldsOk (t : Tm) : Prop where
  ty1 : (t.kind = 6 ∨ t.kind = 9) ↔ t.ty.valid = true
  ty2 : (t.kind = 6 ∨ t.kind = 9) ∨ zeroT t.ty
  res1 : t.kind = 9 ↔ t.res.valid = true
  res2 : t.kind = 9 ∨ zeroT t.res
  n : 0 ≤ t.n ∧ t.n ≤ t.most
  names : t.namesOk
theorem valid_lit {C : Nat → Prop} {t : Ty} {v : Value} {w : World} (h : TT w C t v) (hn : nodesS t.args ≤ 2097152) (b : Bool) (hb : t.valid = b) :
    Calls Tryd.prog 42 #[v] w fun e w' => e = .returned (.bool b) ∧ Below w.heap.size w w' := by
  refine (valid_any h hn).mono ?_
  rintro e w' ⟨r, hr, rfl, hw⟩
  exact ⟨by rw [hr, hb], hw⟩
theorem zlit {p : Prop} {a b : Bool} (h : a = true ↔ p) (h' : b = true ↔ p) : a = b := by
  cases a <;> cases b <;> simp_all
theorem keepR {w W w1 : World} {p1 p2 p3 : Addr} {v1 v2 v3 : Value} (hb1 : Below W.heap.size W w1) (h : W.cell? p1 = some v1 ∧ W.cell? p2 = some v2 ∧ W.cell? p3 = some v3 ∧ Below w.heap.size w W) :
    w1.cell? p1 = some v1 ∧ w1.cell? p2 = some v2 ∧ w1.cell? p3 = some v3 ∧ Below w.heap.size w w1 := by
  have k : ∀ {p : Addr} {v : Value}, W.cell? p = some v → w1.cell? p = some v := fun {p v} hp => (hb1.cell (World.block_lt_of_cell? W _ hp)).trans hp
  exact ⟨k h.1, k h.2.1, k h.2.2.1, h.2.2.2.trans (hb1.mono h.2.2.2.size)⟩
theorem zeroS_yes {k : Int} {p : Option Addr} {n c : Nat} (h : k = 0 ∧ n = 0) (w : World) : Calls Tryd.prog 43 #[.agg #[.int .i64 k, .slice p n c]] w fun e w' => e = .returned (.bool true) ∧ Below w.heap.size w w' := by
  refine (zeroS_any k p n c w).mono ?_
  rintro e w' ⟨r, hr, rfl, hw⟩
  exact ⟨by rw [hr.2 h], hw⟩
theorem zeroS_no {k : Int} {p : Option Addr} {n c : Nat} (h : ¬ (k = 0 ∧ n = 0)) (w : World) : Calls Tryd.prog 43 #[.agg #[.int .i64 k, .slice p n c]] w fun e w' => e = .returned (.bool false) ∧ Below w.heap.size w w' := by
  refine (zeroS_any k p n c w).mono ?_
  rintro e w' ⟨r, hr, rfl, hw⟩
  exact ⟨by rw [Bool.eq_false_iff.2 (fun e => h (hr.1 e))], hw⟩

end Go.Proofs.YtdofjnjiandcbaaDoor
/- TmFieldsSix: The contract of the model's l5Fields: one sort of kinds. -/
namespace Go.Proofs.YtdofjnjiandcbaaDoor
open Go Go.RowKit

set_option maxRecDepth 100000 in
set_option maxHeartbeats 8000000 in
theorem fieldsSSix {C : Nat → Prop} (t : Tm) (tp : Option Addr) (tc : Nat) (rp : Option Addr) (rc : Nat) (p : Option Addr) (c : Nat) (w : World) (hT : TM' w C t tp tc rp rc p c) (hn : t.wt ≤ 2097152) (k : t.kind = 6) :
    Calls Tryd.prog 27 #[tmV t tp tc rp rc p c] w (Tells t.FieldsOk w) := by
  have hw := t.wt_eq
  have n1 : nodesS t.ty.args ≤ 2097152 := by omega
  have n2 : nodesS t.res.args ≤ 2097152 := by omega
  have HB := Lib.hid (al_below w (.cells (tmC t tp tc rp rc p c) 35))
  have HX := Lib.hid (Bx9.new w t tp tc rp rc p c 35)
  have HTY := Lib.hid (fun (W : World) (hW : Below w.heap.size w W) => (⟨_, rfl, hT.ty.keep hW⟩ : TT W C t.ty (.agg #[.int .i64 t.ty.kind, .slice tp t.ty.args.length tc])))
  have HRS := Lib.hid (fun (W : World) (hW : Below w.heap.size w W) => (⟨_, rfl, hT.res.keep hW⟩ : TT W C t.res (.agg #[.int .i64 t.res.kind, .slice rp t.res.args.length rc])))
  have HNM := Lib.hid (fun W => namesS_any t tp tc rp rc p c W (by omega) (by omega))
  clear hT hw hn
  cases hvt : t.ty.valid
  all_goals
    cases hvr : t.res.valid
  all_goals
    have HVT := Lib.hid hvt
    have HVR0 := Lib.hid hvr
    have HVTC := Lib.hid (fun W hW => valid_lit (HTY.out W hW) n1 _ HVT.out)
    have HVRC := Lib.hid (fun W hW => valid_lit (HRS.out W hW) n2 _ HVR0.out)
    clear hvt hvr
  all_goals
    go_enter Tryd.func27, Tryd.ntmps27
  · have HK := Lib.hid k
    have ka := Int.le_of_eq k
    have kb := Int.le_of_eq k.symm
    have e9 : (t.kind == 9) = false := by simp [k]
    have n9 : (t.kind != 9) = true := by simp [k]
    have e6 : (t.kind == 6) = true := by simp [k]
    clear k ka kb
    go_wp2_with fail
    refine (HVTC.out _ HB.out).mono ?_
    rintro e w1 ⟨rfl, hb1⟩
    have HB1 := Lib.hid (HB.out.trans (hb1.mono HB.out.size))
    have HX1 := Lib.hid (HX.out.keep hb1)
    obtain ⟨g0, g1, g2, g3, g4, g5, g6, g7, g8⟩ := HX.out.keep hb1
    clear hb1
    go_wp2_with fail
    go_ret
    exact ⟨_, lit_f (fun h => by have := h.ty1.1 (Or.inl HK.out); rw [HVT.out] at this; cases this), rfl, HB1.out⟩
  · have HK := Lib.hid k
    have ka := Int.le_of_eq k
    have kb := Int.le_of_eq k.symm
    have e9 : (t.kind == 9) = false := by simp [k]
    have n9 : (t.kind != 9) = true := by simp [k]
    have e6 : (t.kind == 6) = true := by simp [k]
    clear k ka kb
    go_wp2_with fail
    refine (HVTC.out _ HB.out).mono ?_
    rintro e w1 ⟨rfl, hb1⟩
    have HB1 := Lib.hid (HB.out.trans (hb1.mono HB.out.size))
    have HX1 := Lib.hid (HX.out.keep hb1)
    obtain ⟨g0, g1, g2, g3, g4, g5, g6, g7, g8⟩ := HX.out.keep hb1
    clear hb1
    go_wp2_with fail
    go_ret
    exact ⟨_, lit_f (fun h => by have := h.ty1.1 (Or.inl HK.out); rw [HVT.out] at this; cases this), rfl, HB1.out⟩
  · have HK := Lib.hid k
    have ka := Int.le_of_eq k
    have kb := Int.le_of_eq k.symm
    have e9 : (t.kind == 9) = false := by simp [k]
    have n9 : (t.kind != 9) = true := by simp [k]
    have e6 : (t.kind == 6) = true := by simp [k]
    clear k ka kb
    go_wp2_with fail
    refine (HVTC.out _ HB.out).mono ?_
    rintro e w1 ⟨rfl, hb1⟩
    have HB1 := Lib.hid (HB.out.trans (hb1.mono HB.out.size))
    have HX1 := Lib.hid (HX.out.keep hb1)
    obtain ⟨g0, g1, g2, g3, g4, g5, g6, g7, g8⟩ := HX.out.keep hb1
    clear hb1
    have HVR := Lib.hid (HVRC.out w1.drew HB1.out.drew)
    by_cases z2 : t.res.kind = 0 ∧ t.res.args.length = 0
    · have HZ2 := Lib.hid z2
      have HZC := Lib.hid (fun W => zeroS_yes (p := rp) (c := rc) z2 W)
      clear z2
      go_wp2_with fail
      go_region_held3 (fun w' => w'.cell? ⟨w.heap.size, 0, none⟩ = some (.int .i64 t.kind) ∧ w'.cell? ⟨w.heap.size, 6, none⟩ = some (.int .i64 t.res.kind) ∧ w'.cell? ⟨w.heap.size, 7, none⟩ = some (.slice rp t.res.args.length rc) ∧ Below w.heap.size w w')
        (first
          | (go_keep; done)
          | exact ⟨g0, g6, g7, HB1.out.drew⟩
          | exact keepR hb6 (by assumption)
          | exact keepR hb5 (by assumption))
        (first
          | (go_at_call 42; refine HVR.out.mono ?_; rintro e w5 ⟨rfl, hb5⟩)
          | (go_at_call 43; refine (HZC.out _).mono ?_; rintro e w6 ⟨rfl, hb6⟩))
      rename_i hH
      clear hH
      have hbd : Below w1.heap.size w1 _ := ((Below.refl _ _).drew.trans hb5).trans (hb6.mono (by have := hb5.size; exact this))
      have HBW := Lib.hid (HB1.out.trans (hbd.mono HB1.out.size))
      clear g0 g1 g2 g3 g4 g5 g6 g7 g8
      obtain ⟨g0, g1, g2, g3, g4, g5, g6, g7, g8⟩ := HX1.out.keep hbd
      clear hbd hb5 hb6
      by_cases hin : 0 ≤ t.n ∧ t.n ≤ 0
      · have hd : decide (0 ≤ t.n ∧ t.n ≤ 0) = true := decide_eq_true hin
        have HIN := Lib.hid hin
        clear hin
        go_wp2_with fail
        refine (in_any _ _ _ _).mono ?_
        rintro e w' ⟨rfl, rfl⟩
        go_wp2_with fail
        refine (HNM.out _).mono ?_
        rintro e w9 ⟨r, hr, rfl, hb9⟩
        have HR9 := Lib.hid hr
        have HB9 := Lib.hid (HBW.out.trans (hb9.mono HBW.out.size))
        clear hr hb9
        go_wp2_with fail
        go_ret
        exact ⟨_, HR9.out.trans ⟨fun h => ⟨⟨fun _ => HVT.out, fun _ => Or.inl HK.out⟩, Or.inl (Or.inl HK.out), ⟨(fun e => by have := HK.out; omega), fun e => by rw [HVR0.out] at e; cases e⟩, Or.inr HZ2.out, by rw [Tm.most, if_neg (by have := HK.out; omega), if_neg (by have := HK.out; omega)]; exact HIN.out, h⟩, fun h => h.names⟩, rfl, HB9.out⟩
      · have hd : decide (0 ≤ t.n ∧ t.n ≤ 0) = false := decide_eq_false hin
        have HIN := Lib.hid hin
        clear hin
        go_wp2_with fail
        refine (in_any _ _ _ _).mono ?_
        rintro e w' ⟨rfl, rfl⟩
        go_wp2_with fail
        go_ret
        exact ⟨_, lit_f (fun h => HIN.out (by have := h.n; rwa [Tm.most, if_neg (by have := HK.out; omega), if_neg (by have := HK.out; omega)] at this)), rfl, HBW.out⟩
    · have HZ2 := Lib.hid z2
      have HZC := Lib.hid (fun W => zeroS_no (p := rp) (c := rc) z2 W)
      clear z2
      go_wp2_with fail
      go_region_held3 (fun w' => w'.cell? ⟨w.heap.size, 0, none⟩ = some (.int .i64 t.kind) ∧ w'.cell? ⟨w.heap.size, 6, none⟩ = some (.int .i64 t.res.kind) ∧ w'.cell? ⟨w.heap.size, 7, none⟩ = some (.slice rp t.res.args.length rc) ∧ Below w.heap.size w w')
        (first
          | (go_keep; done)
          | exact ⟨g0, g6, g7, HB1.out.drew⟩
          | exact keepR hb6 (by assumption)
          | exact keepR hb5 (by assumption))
        (first
          | (go_at_call 42; refine HVR.out.mono ?_; rintro e w5 ⟨rfl, hb5⟩)
          | (go_at_call 43; refine (HZC.out _).mono ?_; rintro e w6 ⟨rfl, hb6⟩))
      rename_i hH
      clear hH
      have hbd : Below w1.heap.size w1 _ := ((Below.refl _ _).drew.trans hb5).trans (hb6.mono (by have := hb5.size; exact this))
      have HBW := Lib.hid (HB1.out.trans (hbd.mono HB1.out.size))
      clear g0 g1 g2 g3 g4 g5 g6 g7 g8
      obtain ⟨g0, g1, g2, g3, g4, g5, g6, g7, g8⟩ := HX1.out.keep hbd
      clear hbd hb5 hb6
      go_wp2_with fail
      go_ret
      exact ⟨_, lit_f (fun h => h.res2.elim (fun e => by have := HK.out; omega) HZ2.out), rfl, HBW.out⟩
  · have HK := Lib.hid k
    have ka := Int.le_of_eq k
    have kb := Int.le_of_eq k.symm
    have e9 : (t.kind == 9) = false := by simp [k]
    have n9 : (t.kind != 9) = true := by simp [k]
    have e6 : (t.kind == 6) = true := by simp [k]
    clear k ka kb
    go_wp2_with fail
    refine (HVTC.out _ HB.out).mono ?_
    rintro e w1 ⟨rfl, hb1⟩
    have HB1 := Lib.hid (HB.out.trans (hb1.mono HB.out.size))
    have HX1 := Lib.hid (HX.out.keep hb1)
    obtain ⟨g0, g1, g2, g3, g4, g5, g6, g7, g8⟩ := HX.out.keep hb1
    clear hb1
    have HVR := Lib.hid (HVRC.out w1.drew HB1.out.drew)
    go_wp2_with fail
    refine wp_region_noPanic ?_
    refine wp_region_held_drew (S := (fun w' => w'.cell? ⟨w.heap.size, 0, none⟩ = some (.int .i64 t.kind) ∧ w'.cell? ⟨w.heap.size, 6, none⟩ = some (.int .i64 t.res.kind) ∧ w'.cell? ⟨w.heap.size, 7, none⟩ = some (.slice rp t.res.args.length rc) ∧ Below w.heap.size w w')) (by kernel_rfl) ?_ (fun hHeld => ?_)
    · try dsimp only
      exact ⟨g0, g6, g7, HB1.out.drew⟩
    refine wpAnyH_take (i := 0) (oi := ({ dst := some 28, op := Op.fieldAddr 35 (Operand.tmp 1) 0, type := 0, pos := "l05_term.go:67", after := #[], guard := none } : Oper)) (v := ?_) rfl (by kernel_rfl) (by kernel_rfl) (by kernel_rfl) (fun _ _ _ h => h) (Or.inl ⟨by rfl, ?_⟩) (by assumption) ?_
    rotate_left
    · intro w hSw
      try dsimp only at hSw
      go_simp
      try with_reducible rfl
    try simp only [Act.put, List.setIfInBounds_toArray, List.set_cons_zero, List.set_cons_succ]
    refine wpAnyH_take (i := 1) (oi := ({ dst := some 29, op := Op.load 3 (Operand.tmp 28), type := 3, pos := "l05_term.go:67", after := #[{ on := 0, ground := Ground.data }], guard := none } : Oper)) (v := ?_) rfl (by kernel_rfl) (by kernel_rfl) (by kernel_rfl) (fun _ _ _ h => h) (Or.inl ⟨by rfl, ?_⟩) (by assumption) ?_
    rotate_left
    · intro w hSw
      try dsimp only at hSw
      go_simp
      try with_reducible rfl
    try simp only [Act.put, List.setIfInBounds_toArray, List.set_cons_zero, List.set_cons_succ]
    refine wpAnyH_take (i := 2) (oi := ({ dst := some 30, op := Op.binOp BinOp.eql 3 (Operand.tmp 29) (Operand.const (Value.int IntKind.i64 9)) 3, type := 4, pos := "l05_term.go:67", after := #[{ on := 1, ground := Ground.data }], guard := none } : Oper)) (v := ?_) rfl (by kernel_rfl) (by kernel_rfl) (by kernel_rfl) (fun _ _ _ h => h) (Or.inl ⟨by rfl, ?_⟩) (by assumption) ?_
    rotate_left
    · intro w hSw
      try dsimp only at hSw
      go_simp
      try with_reducible rfl
    try simp only [Act.put, List.setIfInBounds_toArray, List.set_cons_zero, List.set_cons_succ]
    refine wpAnyH_take (i := 3) (oi := ({ dst := some 31, op := Op.fieldAddr 35 (Operand.tmp 1) 5, type := 0, pos := "l05_term.go:67", after := #[], guard := none } : Oper)) (v := ?_) rfl (by kernel_rfl) (by kernel_rfl) (by kernel_rfl) (fun _ _ _ h => h) (Or.inl ⟨by rfl, ?_⟩) (by assumption) ?_
    rotate_left
    · intro w hSw
      try dsimp only at hSw
      go_simp
      try with_reducible rfl
    try simp only [Act.put, List.setIfInBounds_toArray, List.set_cons_zero, List.set_cons_succ]
    refine wpAnyH_take (i := 4) (oi := ({ dst := some 32, op := Op.load 32 (Operand.tmp 31), type := 32, pos := "l05_term.go:67", after := #[{ on := 3, ground := Ground.data }], guard := none } : Oper)) (v := ?_) rfl (by kernel_rfl) (by kernel_rfl) (by kernel_rfl) (fun _ _ _ h => h) (Or.inl ⟨by rfl, ?_⟩) (by assumption) ?_
    rotate_left
    · intro w hSw
      try dsimp only at hSw
      go_simp
      try with_reducible rfl
    try simp only [Act.put, List.setIfInBounds_toArray, List.set_cons_zero, List.set_cons_succ]
    refine wpAnyH_ready (rs := [5]) (by kernel_rfl) (by simp) ?_
    refine AllReadyH.cons (o := ({ dst := some 33, op := Op.call { callee := Callee.value (Operand.func 42), args := #[Operand.tmp 32], argTypes := #[32] }, type := 4, pos := "l05_term.go:67", after := #[{ on := 4, ground := Ground.data }], guard := none } : Oper)) rfl (fun K hK => ?_) AllReadyH.nil
    go_simp
    (go_at_call 42; refine HVR.out.mono ?_; rintro e w5 ⟨rfl, hb5⟩)
    refine hK.out _ _ ?_ (fun hHeld1 => ?_)
    · try dsimp only
      exact keepR hb5 (by assumption)
    clear hK K
    try simp only [Act.put, List.setIfInBounds_toArray, List.set_cons_zero, List.set_cons_succ]
    refine wpAnyH_take (i := 6) (oi := ({ dst := some 34, op := Op.binOp BinOp.neq 4 (Operand.tmp 30) (Operand.tmp 33) 4, type := 4, pos := "l05_term.go:67", after := #[{ on := 2, ground := Ground.data }, { on := 5, ground := Ground.data }], guard := none } : Oper)) (v := ?_) rfl (by kernel_rfl) (by kernel_rfl) (by kernel_rfl) (fun _ _ _ h => h) (Or.inl ⟨by rfl, ?_⟩) (by assumption) ?_
    rotate_left
    · intro w hSw
      try dsimp only at hSw
      go_simp
      try with_reducible rfl
    try simp only [Act.put, List.setIfInBounds_toArray, List.set_cons_zero, List.set_cons_succ]
    refine wpAnyH_take (i := 7) (oi := ({ dst := some 35, op := Op.move (Operand.tmp 34), type := 4, pos := "l05_term.go:67", after := #[{ on := 6, ground := Ground.data }, { on := 5, ground := Ground.chain }], guard := none } : Oper)) (v := ?_) rfl (by kernel_rfl) (by kernel_rfl) (by kernel_rfl) (fun _ _ _ h => h) (Or.inl ⟨by rfl, ?_⟩) (by assumption) ?_
    rotate_left
    · intro w hSw
      try dsimp only at hSw
      go_simp
      try with_reducible rfl
    try simp only [Act.put, List.setIfInBounds_toArray, List.set_cons_zero, List.set_cons_succ]
    refine wpAnyH_take (i := 8) (oi := ({ dst := some 36, op := Op.fieldAddr 35 (Operand.tmp 1) 0, type := 0, pos := "l05_term.go:67", after := #[{ on := 7, ground := Ground.guard }], guard := some (7, false) } : Oper)) (v := undef) rfl (by kernel_rfl) (by kernel_rfl) (by kernel_rfl) (fun _ _ _ h => h) (Or.inr ⟨by rfl, rfl⟩) (by assumption) ?_
    try simp only [Act.put, List.setIfInBounds_toArray, List.set_cons_zero, List.set_cons_succ]
    refine wpAnyH_take (i := 9) (oi := ({ dst := some 37, op := Op.load 3 (Operand.tmp 36), type := 3, pos := "l05_term.go:67", after := #[{ on := 8, ground := Ground.data }, { on := 7, ground := Ground.guard }], guard := some (7, false) } : Oper)) (v := undef) rfl (by kernel_rfl) (by kernel_rfl) (by kernel_rfl) (fun _ _ _ h => h) (Or.inr ⟨by rfl, rfl⟩) (by assumption) ?_
    try simp only [Act.put, List.setIfInBounds_toArray, List.set_cons_zero, List.set_cons_succ]
    refine wpAnyH_take (i := 10) (oi := ({ dst := some 38, op := Op.binOp BinOp.neq 3 (Operand.tmp 37) (Operand.const (Value.int IntKind.i64 9)) 3, type := 4, pos := "l05_term.go:67", after := #[{ on := 9, ground := Ground.data }, { on := 7, ground := Ground.guard }], guard := some (7, false) } : Oper)) (v := undef) rfl (by kernel_rfl) (by kernel_rfl) (by kernel_rfl) (fun _ _ _ h => h) (Or.inr ⟨by rfl, rfl⟩) (by assumption) ?_
    try simp only [Act.put, List.setIfInBounds_toArray, List.set_cons_zero, List.set_cons_succ]
    refine wpAnyH_take (i := 11) (oi := ({ dst := some 39, op := Op.move (Operand.tmp 38), type := 4, pos := "l05_term.go:67", after := #[{ on := 10, ground := Ground.data }, { on := 7, ground := Ground.chain }, { on := 7, ground := Ground.guard }], guard := some (7, false) } : Oper)) (v := undef) rfl (by kernel_rfl) (by kernel_rfl) (by kernel_rfl) (fun _ _ _ h => h) (Or.inr ⟨by rfl, rfl⟩) (by assumption) ?_
    try simp only [Act.put, List.setIfInBounds_toArray, List.set_cons_zero, List.set_cons_succ]
    refine wpAnyH_take (i := 12) (oi := ({ dst := some 40, op := Op.fieldAddr 35 (Operand.tmp 1) 5, type := 0, pos := "l05_term.go:67", after := #[{ on := 11, ground := Ground.guard }], guard := some (11, true) } : Oper)) (v := undef) rfl (by kernel_rfl) (by kernel_rfl) (by kernel_rfl) (fun _ _ _ h => h) (Or.inr ⟨by rfl, rfl⟩) (by assumption) ?_
    try simp only [Act.put, List.setIfInBounds_toArray, List.set_cons_zero, List.set_cons_succ]
    refine wpAnyH_take (i := 13) (oi := ({ dst := some 41, op := Op.load 32 (Operand.tmp 40), type := 32, pos := "l05_term.go:67", after := #[{ on := 12, ground := Ground.data }, { on := 11, ground := Ground.guard }], guard := some (11, true) } : Oper)) (v := undef) rfl (by kernel_rfl) (by kernel_rfl) (by kernel_rfl) (fun _ _ _ h => h) (Or.inr ⟨by rfl, rfl⟩) (by assumption) ?_
    try simp only [Act.put, List.setIfInBounds_toArray, List.set_cons_zero, List.set_cons_succ]
    refine wpAnyH_take (i := 14) (oi := ({ dst := some 42, op := Op.call { callee := Callee.value (Operand.func 43), args := #[Operand.tmp 41], argTypes := #[32] }, type := 4, pos := "l05_term.go:67", after := #[{ on := 13, ground := Ground.data }, { on := 11, ground := Ground.chain }, { on := 11, ground := Ground.guard }], guard := some (11, true) } : Oper)) (v := undef) rfl (by kernel_rfl) (by kernel_rfl) (by kernel_rfl) (fun _ _ _ h => h) (Or.inr ⟨by rfl, rfl⟩) (by assumption) ?_
    try simp only [Act.put, List.setIfInBounds_toArray, List.set_cons_zero, List.set_cons_succ]
    refine wpAnyH_take (i := 15) (oi := ({ dst := some 43, op := Op.unOp UnOp.not 4 (Operand.tmp 42), type := 4, pos := "l05_term.go:67", after := #[{ on := 14, ground := Ground.data }, { on := 11, ground := Ground.guard }], guard := some (11, true) } : Oper)) (v := undef) rfl (by kernel_rfl) (by kernel_rfl) (by kernel_rfl) (fun _ _ _ h => h) (Or.inr ⟨by rfl, rfl⟩) (by assumption) ?_
    try simp only [Act.put, List.setIfInBounds_toArray, List.set_cons_zero, List.set_cons_succ]
    refine wpAnyH_take (i := 16) (oi := ({ dst := some 44, op := Op.pick (Operand.tmp 39) (Operand.tmp 43) (Operand.const (Value.bool false)), type := 4, pos := "l05_term.go:67", after := #[{ on := 11, ground := Ground.data }, { on := 15, ground := Ground.data }, { on := 7, ground := Ground.guard }], guard := some (7, false) } : Oper)) (v := undef) rfl (by kernel_rfl) (by kernel_rfl) (by kernel_rfl) (fun _ _ _ h => h) (Or.inr ⟨by rfl, rfl⟩) (by assumption) ?_
    try simp only [Act.put, List.setIfInBounds_toArray, List.set_cons_zero, List.set_cons_succ]
    refine wpAnyH_take (i := 17) (oi := ({ dst := some 45, op := Op.pick (Operand.tmp 35) (Operand.const (Value.bool true)) (Operand.tmp 44), type := 4, pos := "l05_term.go:67", after := #[{ on := 7, ground := Ground.data }, { on := 16, ground := Ground.data }], guard := none } : Oper)) (v := ?_) rfl (by kernel_rfl) (by kernel_rfl) (by kernel_rfl) (fun _ _ _ h => h) (Or.inl ⟨by rfl, ?_⟩) (by assumption) ?_
    rotate_left
    · intro w hSw
      try dsimp only at hSw
      go_simp
      try with_reducible rfl
    try simp only [Act.put, List.setIfInBounds_toArray, List.set_cons_zero, List.set_cons_succ]
    refine wpAnyH_done (by kernel_rfl) ?_ _
    refine NoPanic.normal ?_
    clear hHeld hHeld1
    have HBW := Lib.hid (HB1.out.trans (((Below.refl _ _).drew.trans hb5).mono HB1.out.size))
    clear hb5
    go_wp2_with fail
    go_ret
    exact ⟨_, lit_f (fun h => by have := h.res1.2 HVR0.out; have := HK.out; omega), rfl, HBW.out⟩
end Go.Proofs.YtdofjnjiandcbaaDoor
