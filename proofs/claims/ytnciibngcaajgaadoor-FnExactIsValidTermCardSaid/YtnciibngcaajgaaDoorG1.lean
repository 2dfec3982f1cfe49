/-
  Several texts of the proof in one (each says below what it holds): Kit Ty TySz TyEq OwnT TyCopy TyInd OpenT.
-/
import Derived.WalkKit
import Derived.WalkSpells
import Derived.WalkLawsBesides
import Derived.Lib.Hide
import Derived.Laws.IdiomStrings
import Derived.OwnWalk
import Derived.Below
import Derived.Test.YtnciibngcaajgaaDoorProg
import Derived.Deep.RegionHeld3
import Derived.WalkSmall
import Derived.Laws.OwnMore
import Derived.Lib.SmallJoins
/- Kit: Small facts of no program that the walks of this folder want: a one-byte string made out of a slice literal, strings put together. -/
namespace Go.Proofs.YtnciibngcaajgaaDoor
open Go Go.RowKit

/-- 'string([]byte{b})' behind the laying of the literal's block. -/
theorem run_string_byte {P : Program} (w : World) (src dst e : TypeId) (n : Int) (h0 : 0 ≤ n) (h1 : n ≤ 255)
    (hs : P.underlying src = some (.slice e)) (he : P.underlying e = some (.int .u8)) (hd : P.underlying dst = some .string) :
    (convert src dst (.slice (some ⟨w.heap.size, 0, none⟩) 1 1)).run P (w.alloc (.cells #[.int .u8 n] e)) = .ok (.string ⟨#[UInt8.ofNat n.toNat]⟩) (w.alloc (.cells #[.int .u8 n] e)) := by
  have h := run_convert_bytes_back (P := P) (w.alloc (.cells #[.int .u8 n] e)) src dst e ⟨w.heap.size, 0, none⟩ 1 [UInt8.ofNat n.toNat] hs he hd (fun j hj => by
    have hj0 : j = 0 := by simpa using hj
    subst hj0
    have : (UInt8.ofNat n.toNat).toNat = n.toNat := by simp; omega
    show (w.alloc (.cells #[.int .u8 n] e)).cell? ⟨w.heap.size, 0, none⟩ = _
    rw [World.cell?_alloc_mark]
    simp only [List.getElem_cons_zero, this]
    rw [Int.toNat_of_nonneg h0]
    rfl)
  exact h

theorem str_cons (b : UInt8) (l : List UInt8) : (⟨#[b]⟩ : ByteArray) ++ ⟨l.toArray⟩ = ⟨(b :: l).toArray⟩ := by
  apply ByteArray.ext
  simp
end Go.Proofs.YtnciibngcaajgaaDoor
/- Ty: Types ts trees, of no program: what a slice of types holds, that it holds it in every world that keeps its blocks; how many nodes there are. -/
namespace Go.Proofs.YtnciibngcaajgaaDoor
open Go Go.RowKit

inductive Ty where
  | mk (kind : Int) (args : List Ty)
def Ty.kind : Ty → Int | .mk k _ => k
def Ty.args : Ty → List Ty | .mk _ ts => ts
@[simp] theorem Ty.kind_mk (k : Int) (ts : List Ty) : (Ty.mk k ts).kind = k := rfl
@[simp] theorem Ty.args_mk (k : Int) (ts : List Ty) : (Ty.mk k ts).args = ts := rfl

mutual
/-- The nodes of a type; of a list of types. -/
def Ty.nodes : Ty → Nat
  | .mk _ ts => 1 + nodesS ts
def nodesS : List Ty → Nat
  | [] => 0
  | a :: ts => a.nodes + nodesS ts
end
theorem Ty.nodes_eq (t : Ty) : t.nodes = 1 + nodesS t.args := by cases t; simp [Ty.nodes]
theorem nodesS_append (a b : List Ty) : nodesS (a ++ b) = nodesS a + nodesS b := by
  induction a with
  | nil => simp [nodesS]
  | cons x a ih => simp only [List.cons_append, nodesS, ih]; omega
theorem nodesS_take (ts : List Ty) (k : Nat) (h : k < ts.length) : nodesS (ts.take (k + 1)) = nodesS (ts.take k) + (1 + nodesS ts[k].args) := by
  rw [List.take_add_one, List.getElem?_eq_getElem h, nodesS_append]
  simp [nodesS, Ty.nodes_eq]
theorem nodesS_take_le (ts : List Ty) (k : Nat) : nodesS (ts.take k) ≤ nodesS ts := by
  have h := nodesS_append (ts.take k) (ts.drop k)
  rw [List.take_append_drop] at h
  omega
theorem nodesS_ge (ts : List Ty) : ts.length ≤ nodesS ts := by
  induction ts with
  | nil => simp
  | cons a ts ih => simp only [List.length_cons, nodesS, Ty.nodes_eq]; omega
theorem nodesS_at (ts : List Ty) (k : Nat) (h : k < ts.length) : 1 + nodesS ts[k].args ≤ nodesS ts := by
  have h1 := nodesS_take ts k h
  have h2 := nodesS_take_le ts (k + 1)
  omega

/-- The slice holds just these types; C: the blocks it may lie in. -/
inductive TS (w : World) (C : Nat → Prop) : List Ty → Value → Prop
  | nil (a : Option Addr) (c : Nat) : TS w C [] (.slice a 0 c)
  | cons {ts : List Ty} {b o c : Nat} (S : Nat → Value) (h1 : 1 ≤ ts.length) (hc : ts.length ≤ c) (hm : c ≤ 9223372036854775807) (hC : C b) (hb : b < w.heap.size)
      (hk : ∀ j x, ts[j]? = some x → w.cell? ⟨b, o + j * 2, none⟩ = some (.int .i64 x.kind))
      (hs : ∀ j x, ts[j]? = some x → w.cell? ⟨b, o + j * 2 + 1, none⟩ = some (S j))
      (hr : ∀ j x, ts[j]? = some x → TS w C x.args (S j)) : TS w C ts (.slice (some ⟨b, o, none⟩) ts.length c)

/-- What stays ts it was in the blocks of C. -/
def Stays (C : Nat → Prop) (w w' : World) : Prop := w.heap.size ≤ w'.heap.size ∧ ∀ b, C b → b < w.heap.size → w'.heap[b]? = w.heap[b]?
theorem Stays.of_below {C : Nat → Prop} {w w' : World} (h : Below w.heap.size w w') : Stays C w w' := ⟨h.size, fun b _ hb => h.block b hb⟩
theorem Stays.refl (C : Nat → Prop) (w : World) : Stays C w w := ⟨Nat.le_refl _, fun _ _ _ => rfl⟩
theorem Stays.mono {C C' : Nat → Prop} {w w' : World} (h : Stays C w w') (hc : ∀ z, C' z → C z) : Stays C' w w' := ⟨h.1, fun b hb hl => h.2 b (hc b hb) hl⟩
theorem Stays.trans {C : Nat → Prop} {a b c : World} (h : Stays C a b) (k : Stays C b c) : Stays C a c :=
  ⟨Nat.le_trans h.1 k.1, fun i hi hl => (k.2 i hi (Nat.lt_of_lt_of_le hl h.1)).trans (h.2 i hi hl)⟩

theorem TS.stays {w w' : World} {C : Nat → Prop} {ts : List Ty} {v : Value} (h : TS w C ts v) (hs : Stays C w w') : TS w' C ts v := by
  induction h with
  | nil a c => exact .nil a c
  | cons S h1 hc hm hC hb hk hS hr ih =>
    refine .cons S h1 hc hm hC (Nat.lt_of_lt_of_le hb hs.1) (fun j x hj => ?_) (fun j x hj => ?_) ih
    · rw [World.cell?_of_block (w := _) (hs.2 _ hC hb)]; exact hk j x hj
    · rw [World.cell?_of_block (w := _) (hs.2 _ hC hb)]; exact hS j x hj
theorem TS.keep {w w' : World} {C : Nat → Prop} {ts : List Ty} {v : Value} (h : TS w C ts v) (hb : Below w.heap.size w w') : TS w' C ts v := h.stays (.of_below hb)
theorem TS.mono {w : World} {C C' : Nat → Prop} {ts : List Ty} {v : Value} (h : TS w C ts v) (hC' : ∀ b, C b → b < w.heap.size → C' b) : TS w C' ts v := by
  induction h with
  | nil a c => exact .nil a c
  | cons S h1 hc hm hC hb hk hS hr ih => exact .cons S h1 hc hm (hC' _ hC hb) hb hk hS ih

/-- A struct value that is the type t. -/
def TT (w : World) (C : Nat → Prop) (t : Ty) (v : Value) : Prop := ∃ s, v = .agg #[.int .i64 t.kind, s] ∧ TS w C t.args s
theorem TT.keep {w w' : World} {C : Nat → Prop} {t : Ty} {v : Value} (h : TT w C t v) (hb : Below w.heap.size w w') : TT w' C t v := by
  obtain ⟨s, hv, h⟩ := h
  exact ⟨s, hv, h.keep hb⟩
theorem TS.form {w : World} {C : Nat → Prop} {ts : List Ty} {v : Value} (h : TS w C ts v) : ∃ a c, v = .slice a ts.length c := by
  cases h with
  | nil a c => exact ⟨a, c, rfl⟩
  | cons => exact ⟨_, _, rfl⟩
theorem TS.len {w : World} {C : Nat → Prop} {ts : List Ty} {v : Value} (h : TS w C ts v) : ts.length ≤ 9223372036854775807 := by
  cases h with
  | nil => simp
  | cons S h1 hc hm => omega
end Go.Proofs.YtnciibngcaajgaaDoor
/- TySz: The contract of the laws' szTypeS and szType: what is left of a bound behind a type, or -1. -/
namespace Go.Proofs.YtnciibngcaajgaaDoor
open Go Go.RowKit

/-- How the count ends. -/
def SzEnds (left : Int) (n : Nat) (r : Int) : Prop := (0 ≤ r ∧ r + n = left) ∨ (r = -1 ∧ left < n)
theorem SzEnds.range {left : Int} {n : Nat} {r : Int} (h : SzEnds left n r) (hl : 0 ≤ left) : -1 ≤ r ∧ r ≤ left := by
  unfold SzEnds at h
  omega
def IntRet (P : Int → Prop) (w : World) (e : Ending) (w' : World) : Prop := ∃ n : Int, P n ∧ e = .returned (.int .i64 n) ∧ Below w.heap.size w w'

set_option maxRecDepth 100000 in
set_option maxHeartbeats 1000000 in
theorem szT_of (k : Int) (p : Option Addr) (l c : Nat) (n : Nat) (left : Int) (w : World) (h0 : 0 ≤ left)
    (h : ∀ w', Below w.heap.size w w' → Calls Tryd.prog 66 #[.slice p l c, .int .i64 left] w' (IntRet (SzEnds left n) w')) :
    Calls Tryd.prog 42 #[.agg #[.int .i64 k, .slice p l c], .int .i64 left] w (IntRet (SzEnds left n) w) := by
  have HH := Lib.hid h
  have HB := Lib.hid ((Below.refl w.heap.size w).alloc (Nat.le_refl _) (Obj.cells #[.int .i64 k, .slice p l c] 40))
  clear h
  go_enter Tryd.func42, Tryd.ntmps42
  go_wp2_with fail
  refine (HH.out _ HB.out).mono ?_
  rintro e w1 ⟨r, hr, rfl, hb1⟩
  have hrg := hr.range h0
  have HR := Lib.hid hr
  have HB1 := Lib.hid (HB.out.trans (hb1.mono HB.out.size))
  clear hr hb1
  by_cases hneg : r < 0
  · go_wp2_with fail
    go_ret
    exact ⟨_, by have := HR.out; unfold SzEnds at *; omega, rfl, HB1.out⟩
  · go_wp2_with fail
    go_ret
    exact ⟨_, HR.out, rfl, HB1.out⟩

/-- k types have been counted: L is left. -/
def LeftAt (left : Int) (ts : List Ty) (k : Nat) (L : Int) : Prop := L + ts.length + (nodesS (ts.take k) - k : Nat) = left

theorem nodesS_take_ge (ts : List Ty) (k : Nat) (h : k ≤ ts.length) : k ≤ nodesS (ts.take k) := by
  have := nodesS_ge (ts.take k)
  rw [List.length_take] at this
  omega
theorem leftAt_next {left : Int} {ts : List Ty} {k : Nat} {L r : Int} (h : LeftAt left ts k L) (hk : k < ts.length) (hr : SzEnds L (nodesS ts[k].args) r) (h0 : 0 ≤ r) : LeftAt left ts (k + 1) r := by
  have h1 := nodesS_take ts k hk
  have h2 := nodesS_take_ge ts k (Nat.le_of_lt hk)
  unfold LeftAt SzEnds at *
  omega
theorem leftAt_over {left : Int} {ts : List Ty} {k : Nat} {L r : Int} (h : LeftAt left ts k L) (hk : k < ts.length) (hr : SzEnds L (nodesS ts[k].args) r) (h0 : r < 0) : SzEnds left (nodesS ts) (-1) := by
  have h1 := nodesS_take ts k hk
  have h2 := nodesS_take_ge ts k (Nat.le_of_lt hk)
  have h3 := nodesS_append (ts.take (k + 1)) (ts.drop (k + 1))
  rw [List.take_append_drop] at h3
  have h4 := nodesS_ge (ts.drop (k + 1))
  rw [List.length_drop] at h4
  unfold LeftAt SzEnds at *
  omega
theorem leftAt_end {left : Int} {ts : List Ty} {L : Int} (h : LeftAt left ts ts.length L) (h0 : 0 ≤ L) : SzEnds left (nodesS ts) L := by
  have h2 := nodesS_ge ts
  unfold LeftAt at h
  rw [List.take_length] at h
  unfold SzEnds
  omega

set_option maxRecDepth 100000 in
set_option maxHeartbeats 1000000 in
theorem szS_any {w0 : World} {C : Nat → Prop} {ts : List Ty} {v : Value} (h : TS w0 C ts v) : ∀ (w : World) (left : Int), Stays C w0 w → 0 ≤ left → left ≤ 1048576 →
    Calls Tryd.prog 66 #[v, .int .i64 left] w (IntRet (SzEnds left (nodesS ts)) w) := by
  induction h with
  | nil a c =>
    intro w left hst h0 hl
    go_enter Tryd.func66, Tryd.ntmps66
    go_wp2_with fail
    go_loop [1, 5] (fun l i => l = .int .i64 left ∧ i = .int .i64 0) (fun _ _ => 0)
    case atStart => exact ⟨rfl, rfl⟩
    case round =>
      obtain ⟨rfl, rfl⟩ := hrel
      go_wp2_with fail
      go_ret
      exact ⟨_, Or.inl ⟨h0, by simp [nodesS]⟩, rfl, Below.refl _ _⟩
  | @cons ts b o c S h1 hc hm hC hb hk hs hr ih =>
    intro w left hst h0 hl
    have T := Lib.hid (TS.cons S h1 hc hm hC hb hk hs hr)
    have HIH := Lib.hid ih
    have HST := Lib.hid hst
    have HK := Lib.hid (fun j x (e : ts[j]? = some x) (w' : World) (hw : Stays C w0 w') => (World.cell?_of_block (w := w0) (a := ⟨b, o + j * 2, none⟩) (hw.2 b hC hb)).trans (hk j x e))
    have HS := Lib.hid (fun j x (e : ts[j]? = some x) (w' : World) (hw : Stays C w0 w') => (World.cell?_of_block (w := w0) (a := ⟨b, o + j * 2 + 1, none⟩) (hw.2 b hC hb)).trans (hs j x e))
    have HF := Lib.hid (fun j x (e : ts[j]? = some x) => (hr j x e).form)
    clear hk hs hr ih hst hC hb
    go_enter Tryd.func66, Tryd.ntmps66
    by_cases hbig : left - (ts.length : Int) < 0
    · go_wp2_with fail
      go_ret
      exact ⟨_, Or.inr ⟨rfl, by have := nodesS_ge ts; omega⟩, rfl, Below.refl _ _⟩
    · go_wp2_with fail
      go_loopw [1, 5] (fun l i wr => ∃ (k : Nat) (L : Int), k ≤ ts.length ∧ 0 ≤ L ∧ L ≤ left ∧ i = .int .i64 k ∧ l = .int .i64 L ∧ LeftAt left ts k L ∧ Below w.heap.size w wr) (fun _ i _ => ts.length - (intOf i).toNat)
      case atStart => exact ⟨0, _, Nat.zero_le _, by omega, by omega, rfl, rfl, by unfold LeftAt; simp [nodesS], Below.refl _ _⟩
      case round =>
        obtain ⟨k, L, hk, hL0, hL1, rfl, rfl, hat, hbr⟩ := hrel
        have HA := Lib.hid hat
        have HB := Lib.hid hbr
        have hst : Stays C w0 wr := HST.out.trans (.of_below hbr)
        have HSR := Lib.hid hst
        clear hat hbr hst
        by_cases hlk : k < ts.length
        · have e := List.getElem?_eq_getElem hlk
          have c1 := HK.out k _ e wr HSR.out
          have c2 := HS.out k _ e wr HSR.out
          obtain ⟨p, q, hf⟩ := HF.out k _ e
          rw [hf] at c2
          have HC := Lib.hid (szT_of ts[k].kind p _ q (nodesS ts[k].args) L wr hL0 (fun w' hw' => hf ▸ HIH.out k _ e w' L (HSR.out.trans (.of_below hw')) hL0 (by omega)))
          clear e
          go_wp2_with fail
          refine HC.out.mono ?_
          rintro e w1 ⟨r, hr, rfl, hb1⟩
          have hrg := hr.range hL0
          have HR := Lib.hid hr
          have HB1 := Lib.hid (HB.out.trans (hb1.mono HB.out.size))
          clear hr hb1
          by_cases hneg : r < 0
          · go_wp2_with fail
            go_ret
            exact ⟨_, leftAt_over HA.out hlk HR.out hneg, rfl, HB1.out⟩
          · go_wp2_with fail
            go_roundw
            case rel => exact ⟨k + 1, r, by omega, by omega, by omega, by go_num, rfl, leftAt_next HA.out hlk HR.out (by omega), HB1.out⟩
            case measure => simp [intOf]; omega
        · obtain rfl : k = ts.length := by omega
          go_wp2_with fail
          go_ret
          exact ⟨_, leftAt_end HA.out hL0, rfl, HB.out⟩
/-- THE LAWS' szType, AT EVERY TYPE. -/
theorem szT_any {C : Nat → Prop} {t : Ty} {v : Value} {w : World} (h : TT w C t v) (left : Int) (h0 : 0 ≤ left) (hl : left ≤ 1048576) :
    Calls Tryd.prog 42 #[v, .int .i64 left] w (IntRet (SzEnds left (nodesS t.args)) w) := by
  obtain ⟨s, rfl, h⟩ := h
  obtain ⟨p, c, rfl⟩ := h.form
  exact szT_of t.kind p _ c _ left w h0 (fun w' hb => szS_any h w' left (.of_below hb) h0 hl)
#print axioms szT_any
end Go.Proofs.YtnciibngcaajgaaDoor
/- TyEq: The contract of the laws' eqTypeS and eqType: whether two types are the same. -/
namespace Go.Proofs.YtnciibngcaajgaaDoor
open Go Go.RowKit

def BoolRet (P : Bool → Prop) (w : World) (e : Ending) (w' : World) : Prop := ∃ b : Bool, P b ∧ e = .returned (.bool b) ∧ Below w.heap.size w w'

theorem Ty.ext {a b : Ty} (h1 : a.kind = b.kind) (h2 : a.args = b.args) : a = b := by
  cases a; cases b; simp at h1 h2; rw [h1, h2]

set_option maxRecDepth 100000 in
set_option maxHeartbeats 1000000 in
theorem eqT_of (k k2 : Int) (p p2 : Option Addr) (l c l2 c2 : Nat) (Q : Prop) (w : World)
    (h : ∀ w', Below w.heap.size w w' → Calls Tryd.prog 68 #[.slice p l c, .slice p2 l2 c2] w' (BoolRet (fun b => b = true ↔ Q) w')) :
    Calls Tryd.prog 46 #[.agg #[.int .i64 k, .slice p l c], .agg #[.int .i64 k2, .slice p2 l2 c2]] w (BoolRet (fun b => b = true ↔ (k = k2 ∧ Q)) w) := by
  have HH := Lib.hid h
  have HB := Lib.hid (((Below.refl w.heap.size w).alloc (Nat.le_refl _) (Obj.cells #[.int .i64 k, .slice p l c] 26)).alloc (by simp) (Obj.cells #[.int .i64 k2, .slice p2 l2 c2] 26))
  clear h
  go_enter Tryd.func46, Tryd.ntmps46
  by_cases hk : k = k2
  · subst hk
    go_wp2_with fail
    refine (HH.out _ HB.out).mono ?_
    rintro e w1 ⟨r, hr, rfl, hb1⟩
    have HR := Lib.hid hr
    have HB1 := Lib.hid (HB.out.trans (hb1.mono HB.out.size))
    clear hr hb1
    cases r with
    | true =>
      go_wp2_with fail
      go_ret
      exact ⟨true, by simpa using HR.out, rfl, HB1.out⟩
    | false =>
      go_wp2_with fail
      go_ret
      exact ⟨false, by simpa using HR.out, rfl, HB1.out⟩
  · go_wp2_with fail
    go_ret
    exact ⟨false, by simp [hk], rfl, HB.out⟩

theorem keep4 {w W w1 : World} {p1 p2 p3 p4 : Addr} {v1 v2 v3 v4 : Value} (hb1 : Below W.heap.size W w1) (h : W.cell? p1 = some v1 ∧ W.cell? p2 = some v2 ∧ W.cell? p3 = some v3 ∧ W.cell? p4 = some v4 ∧ Below w.heap.size w W) :
    w1.cell? p1 = some v1 ∧ w1.cell? p2 = some v2 ∧ w1.cell? p3 = some v3 ∧ w1.cell? p4 = some v4 ∧ Below w.heap.size w w1 :=
  ⟨(hb1.cell (World.block_lt_of_cell? W _ h.1)).trans h.1, (hb1.cell (World.block_lt_of_cell? W _ h.2.1)).trans h.2.1, (hb1.cell (World.block_lt_of_cell? W _ h.2.2.1)).trans h.2.2.1, (hb1.cell (World.block_lt_of_cell? W _ h.2.2.2.1)).trans h.2.2.2.1, h.2.2.2.2.trans (hb1.mono h.2.2.2.2.size)⟩

theorem take_eq_next {ts us : List Ty} {k : Nat} (h : ts.take k = us.take k) (h1 : k < ts.length) (h2 : k < us.length) (he : ts[k].kind = us[k].kind ∧ ts[k].args = us[k].args) : ts.take (k + 1) = us.take (k + 1) := by
  rw [List.take_add_one, List.take_add_one, h, List.getElem?_eq_getElem h1, List.getElem?_eq_getElem h2, Ty.ext he.1 he.2]
theorem ne_of_at {ts us : List Ty} {k : Nat} (h1 : k < ts.length) (h2 : k < us.length) (hn : ¬ (ts[k].kind = us[k].kind ∧ ts[k].args = us[k].args)) : ts ≠ us := by
  intro e; subst e; exact hn ⟨rfl, rfl⟩

set_option maxRecDepth 100000 in
set_option maxHeartbeats 1000000 in
theorem eqS_any {w0 : World} {C C' : Nat → Prop} {ts : List Ty} {v : Value} (h : TS w0 C ts v) : ∀ (w : World) (us : List Ty) (u : Value), Stays C w0 w → TS w C' us u →
    Calls Tryd.prog 68 #[v, u] w (BoolRet (fun b => b = true ↔ ts = us) w) := by
  induction h with
  | nil a c =>
    intro w us u hst hu
    obtain ⟨p, d, rfl⟩ := hu.form
    have hlen := hu.len
    clear hu
    go_enter Tryd.func68, Tryd.ntmps68
    by_cases hz : us.length = 0
    · obtain rfl := List.eq_nil_of_length_eq_zero hz
      simp only [List.length_nil]
      go_wp2_with fail
      go_loop [5] (fun i => i = .int .i64 0) (fun _ => 0)
      case atStart => exact rfl
      case round =>
        obtain rfl := hrel
        go_wp2_with fail
        go_ret
        exact ⟨true, by simp, rfl, Below.refl _ _⟩
    · have hne : ¬ ([] = us) := fun e => hz (by rw [← e]; rfl)
      have HN := Lib.hid hne
      clear hne
      go_wp2_with fail
      go_ret
      exact ⟨false, by simpa using HN.out, rfl, Below.refl _ _⟩
  | @cons ts b o c S h1 hc hm hC hb hk hs hr ih =>
    intro w us u hst hu
    have HIH := Lib.hid ih
    have HST := Lib.hid hst
    have HK := Lib.hid (fun j x (e : ts[j]? = some x) (w' : World) (hw : Stays C w0 w') => (World.cell?_of_block (w := w0) (a := ⟨b, o + j * 2, none⟩) (hw.2 b hC hb)).trans (hk j x e))
    have HS := Lib.hid (fun j x (e : ts[j]? = some x) (w' : World) (hw : Stays C w0 w') => (World.cell?_of_block (w := w0) (a := ⟨b, o + j * 2 + 1, none⟩) (hw.2 b hC hb)).trans (hs j x e))
    have HF := Lib.hid (fun j x (e : ts[j]? = some x) => (hr j x e).form)
    clear hk hs hr ih hst hC hb
    by_cases hlen : ts.length = us.length
    · cases hu with
      | nil a d =>
        have h0 : ts.length = 0 := hlen
        omega
      | @cons us b2 o2 d S2 h12 hc2 hm2 hC2 hb2 hk2 hs2 hr2 =>
        have HT2 := Lib.hid (fun (w' : World) (hw : Below w.heap.size w w') => TS.keep (.cons S2 h12 hc2 hm2 hC2 hb2 hk2 hs2 hr2) hw)
        have HK2 := Lib.hid hk2
        have HS2 := Lib.hid hs2
        have HR2 := Lib.hid hr2
        clear hk2 hs2 hr2 hC2
        have HL := Lib.hid hlen
        go_enter Tryd.func68, Tryd.ntmps68
        rw [← hlen]
        clear hlen
        go_wp2_with fail
        go_loopw [5] (fun i wr => ∃ (k : Nat), k ≤ ts.length ∧ i = .int .i64 k ∧ ts.take k = us.take k ∧ Below w.heap.size w wr) (fun i _ => ts.length - (intOf i).toNat)
        case atStart => exact ⟨0, Nat.zero_le _, rfl, by simp, Below.refl _ _⟩
        case round =>
          obtain ⟨k, hk, rfl, htk, hbr⟩ := hrel
          have HTK := Lib.hid htk
          have HB := Lib.hid hbr
          have HSR := Lib.hid (HST.out.trans (Stays.of_below (C := C) hbr))
          clear htk
          by_cases hlk : k < ts.length
          · have hlk2 : k < us.length := by rw [← HL.out]; exact hlk
            have e := List.getElem?_eq_getElem hlk
            have e2 := List.getElem?_eq_getElem hlk2
            have c1 := HK.out k _ e wr HSR.out
            have c2 := HS.out k _ e wr HSR.out
            have c3 := (hbr.cell (p := ⟨b2, o2 + k * 2, none⟩) hb2).trans (HK2.out k _ e2)
            have c4 := (hbr.cell (p := ⟨b2, o2 + k * 2 + 1, none⟩) hb2).trans (HS2.out k _ e2)
            obtain ⟨p, q, hf⟩ := HF.out k _ e
            obtain ⟨p2, q2, hf2⟩ := (HR2.out k _ e2).form
            have HC := Lib.hid (fun (W : World) (hW : Below w.heap.size w W) => eqT_of ts[k].kind us[k].kind p p2 _ q _ q2 (ts[k].args = us[k].args) W (fun w' hw' => by
              have hw2 := hW.trans (hw'.mono hW.size)
              have hh := HIH.out k _ e w' _ _ (HST.out.trans (Stays.of_below hw2)) ((HR2.out k _ e2).keep hw2)
              rw [hf, hf2] at hh
              exact hh))
            rw [hf] at c2
            rw [hf2] at c4
            have i0 : (0 : Int) ≤ (k : Int) := Int.natCast_nonneg _
            have i1 : (k : Int) < (ts.length : Int) := by omega
            clear e e2 hf hf2
            go_wp2_with fail
            go_region_held3 (fun w' => w'.cell? ⟨b, o + k * 2, none⟩ = some (.int .i64 ts[k].kind) ∧ w'.cell? ⟨b, o + k * 2 + 1, none⟩ = some (.slice p ts[k].args.length q) ∧ w'.cell? ⟨b2, o2 + k * 2, none⟩ = some (.int .i64 us[k].kind) ∧ w'.cell? ⟨b2, o2 + k * 2 + 1, none⟩ = some (.slice p2 us[k].args.length q2) ∧ Below w.heap.size w w')
              (first
                | (go_keep; done)
                | exact ⟨by simp [*], by simp [*], by simp [*], by simp [*], hbr.drew⟩
                | exact keep4 hb1 (by assumption))
              (first | (go_at_call 46; refine (HC.out _ hbr.drew).mono ?_; rintro e w1 ⟨r, hr, rfl, hb1⟩))
            rename_i hH
            have HB1 := Lib.hid hH.2.2.2.2
            have HR := Lib.hid hr
            clear hH hb1 c1 c2 c3 c4 hr
            cases r with
            | true =>
              go_wp2_with fail
              go_roundw
              case rel => exact ⟨k + 1, by omega, by go_num, take_eq_next HTK.out hlk hlk2 (HR.out.1 rfl), HB1.out⟩
              case measure => simp [intOf]; omega
            | false =>
              go_wp2_with fail
              go_ret
              exact ⟨false, by simpa using ne_of_at hlk hlk2 (fun e => by simpa using HR.out.2 e), rfl, HB1.out⟩
          · obtain rfl : k = ts.length := by omega
            have htk : ts = us := by
              have := HTK.out
              rw [List.take_length, HL.out, List.take_length] at this
              exact this
            have HE := Lib.hid htk
            clear htk
            go_wp2_with fail
            go_ret
            exact ⟨true, by simpa using HE.out, rfl, HB.out⟩
    · have hne : ¬ (ts = us) := fun e => hlen (by rw [← e])
      obtain ⟨p, d, rfl⟩ := hu.form
      have hlen2 := hu.len
      have HN := Lib.hid hne
      clear hne hu
      go_enter Tryd.func68, Tryd.ntmps68
      go_wp2_with fail
      go_ret
      exact ⟨false, by simpa using HN.out, rfl, Below.refl _ _⟩
/-- THE LAWS' eqType, AT ANY TWO TYPES. -/
theorem eqT_any {C C' : Nat → Prop} {t u : Ty} {v x : Value} {w : World} (h : TT w C t v) (h2 : TT w C' u x) :
    Calls Tryd.prog 46 #[v, x] w (BoolRet (fun b => b = true ↔ t = u) w) := by
  obtain ⟨s, rfl, h⟩ := h
  obtain ⟨p, c, rfl⟩ := h.form
  obtain ⟨s2, rfl, h2⟩ := h2
  obtain ⟨p2, c2, rfl⟩ := h2.form
  refine (eqT_of t.kind u.kind p p2 _ c _ c2 (t.args = u.args) w (fun w' hb => eqS_any h w' _ _ (.of_below hb) (h2.keep hb))).mono ?_
  rintro e w' ⟨b, hb, he, hw⟩
  exact ⟨b, hb.trans ⟨fun h => Ty.ext h.1 h.2, fun h => by rw [h]; exact ⟨rfl, rfl⟩⟩, he, hw⟩
#print axioms eqT_any
end Go.Proofs.YtnciibngcaajgaaDoor
/- OwnT: Types in memory that the call made itself: a row of types of its own, a tree of such rows whose blocks are apart. -/
namespace Go.Proofs.YtnciibngcaajgaaDoor
open Go Go.RowKit

theorem infoTy : (Tryd.prog.info? 26).map (fun i => (i.zero, i.size, i.bytes)) = some (some (.agg #[.int .i64 0, .slice none 0 0]), 2, 32) := by kernel_rfl

/-- Block b is a row of c types of the call's own, of which the first n hold the kinds K and the slices S. -/
def Row (w : World) (b n c : Nat) (K : Nat → Int) (S : Nat → Value) : Prop :=
  ∃ cur : Array Value, w.heap[b]? = some (.cells cur 26 (0, 0)) ∧ cur.size = c * 2 ∧ n ≤ c ∧ ∀ j, j < n → cur[j * 2]? = some (.int .i64 (K j)) ∧ cur[j * 2 + 1]? = some (S j)

namespace Row
variable {w : World} {b n c : Nat} {K : Nat → Int} {S : Nat → Value}
theorem kind (h : Row w b n c K S) {j : Nat} (hj : j < n) : w.cell? ⟨b, j * 2, none⟩ = some (.int .i64 (K j)) := by
  obtain ⟨cur, hb, _, _, hc⟩ := h
  simp [World.cell?, hb, (hc j hj).1]
theorem args (h : Row w b n c K S) {j : Nat} (hj : j < n) : w.cell? ⟨b, j * 2 + 1, none⟩ = some (S j) := by
  obtain ⟨cur, hb, _, _, hc⟩ := h
  simp [World.cell?, hb, (hc j hj).2]
theorem frozen (h : Row w b n c K S) (i : Nat) : w.frozen? ⟨b, i, none⟩ = false := by
  obtain ⟨cur, hb, _, _, _⟩ := h
  simp [World.frozen?, hb]
theorem lt (h : Row w b n c K S) : b < w.heap.size := by
  obtain ⟨cur, hb, _, _, _⟩ := h
  exact (Array.getElem?_eq_some_iff.1 hb).1
theorem of_block {w' : World} (h : Row w b n c K S) (e : w'.heap[b]? = w.heap[b]?) : Row w' b n c K S := by
  obtain ⟨cur, hb, h1, h2, h3⟩ := h
  exact ⟨cur, e.trans hb, h1, h2, h3⟩
theorem below {w' : World} (h : Row w b n c K S) (hb : Below w.heap.size w w') : Row w' b n c K S := h.of_block (hb.block b h.lt)
theorem congr {K' : Nat → Int} {S' : Nat → Value} (h : Row w b n c K S) (e1 : ∀ j, j < n → K j = K' j) (e2 : ∀ j, j < n → S j = S' j) : Row w b n c K' S' := by
  obtain ⟨cur, hb, h1, h2, h3⟩ := h
  exact ⟨cur, hb, h1, h2, fun j hj => by rw [← e1 j hj, ← e2 j hj]; exact h3 j hj⟩
theorem setKind (h : Row w b n c K S) (k : Nat) (q : Int) : Row (w.setCell ⟨b, k * 2, none⟩ (.int .i64 q)) b n c (fun j => if j = k then q else K j) S := by
  obtain ⟨cur, hb, h1, h2, h3⟩ := h
  refine ⟨cur.setIfInBounds (k * 2) (.int .i64 q), ?_, by simpa using h1, h2, fun j hj => ?_⟩
  · simp [World.setCell, Array.getElem?_modify, hb]
  · rw [Array.getElem?_setIfInBounds, Array.getElem?_setIfInBounds]
    obtain ⟨e1, e2⟩ := h3 j hj
    constructor
    · by_cases e : j = k
      · subst e
        have : j * 2 < cur.size := by omega
        simp [this]
      · dsimp only; rw [if_neg (by omega), if_neg e]; exact e1
    · rw [if_neg (by omega)]; exact e2
theorem setArgs (h : Row w b n c K S) (k : Nat) (s : Value) : Row (w.setCell ⟨b, k * 2 + 1, none⟩ s) b n c K (fun j => if j = k then s else S j) := by
  obtain ⟨cur, hb, h1, h2, h3⟩ := h
  refine ⟨cur.setIfInBounds (k * 2 + 1) s, ?_, by simpa using h1, h2, fun j hj => ?_⟩
  · simp [World.setCell, Array.getElem?_modify, hb]
  · rw [Array.getElem?_setIfInBounds, Array.getElem?_setIfInBounds]
    obtain ⟨e1, e2⟩ := h3 j hj
    constructor
    · rw [if_neg (by omega)]; exact e1
    · by_cases e : j = k
      · subst e
        have : j * 2 + 1 < cur.size := by omega
        simp [this]
      · dsimp only; rw [if_neg (by omega), if_neg e]; exact e2
theorem of_owns {base g cap : Nat} {xs : List Value} (h : w.ownsRow base 26 2 (.slice (some ⟨g, 0, none⟩) n cap) n xs) (hx : ∀ j, j < n → xs[j * 2]? = some (.int .i64 (K j)) ∧ xs[j * 2 + 1]? = some (S j)) :
    Row w g n cap K S ∧ base ≤ g ∧ cap ≤ maxLen := by
  obtain ⟨_, h0 | ⟨g', cap', cur, hv, hg, hblk, h1, h2, h3, h4⟩⟩ := h
  · exact absurd h0.1 (by simp)
  · simp only [Value.slice.injEq, Option.some.injEq, Addr.mk.injEq, true_and, and_true] at hv
    obtain ⟨rfl, rfl⟩ := hv
    refine ⟨⟨cur, hblk, h3, h1, fun j hj => ?_⟩, hg, h2⟩
    obtain ⟨e1, e2⟩ := hx j hj
    rw [← h4, List.getElem?_take, if_pos (by omega), Array.getElem?_toList] at e1 e2
    exact ⟨e1, e2⟩
theorem to_owns (h : Row w b n c K S) (base : Nat) (hb : base ≤ b) (hc : c ≤ maxLen) :
    w.ownsRow base 26 2 (.slice (some ⟨b, 0, none⟩) n c) n ((List.range n).flatMap fun j => [.int .i64 (K j), S j]) := by
  obtain ⟨cur, hblk, h1, h2, h3⟩ := h
  have hl : ∀ m, ((List.range m).flatMap fun j => [Value.int .i64 (K j), S j]).length = m * 2 := by
    intro m
    induction m with
    | zero => rfl
    | succ m ih => rw [List.range_succ, List.flatMap_append, List.length_append, ih]; simp; omega
  refine ⟨hl n, Or.inr ⟨b, c, cur, rfl, hb, hblk, h2, hc, h1, ?_⟩⟩
  have key : ∀ m, m ≤ n → cur.toList.take (m * 2) = (List.range m).flatMap fun j => [Value.int .i64 (K j), S j] := by
    intro m
    induction m with
    | zero => intro _; simp
    | succ m ih =>
      intro hm
      obtain ⟨e1, e2⟩ := h3 m (by omega)
      rw [List.range_succ, List.flatMap_append, ← ih (by omega), show (m + 1) * 2 = m * 2 + 1 + 1 by omega, List.take_add_one, List.take_add_one, Array.getElem?_toList, Array.getElem?_toList, e1, e2]
      simp
  exact key n (Nat.le_refl _)
end Row

/-- A tree of rows of the call's own; F: the blocks, which are apart. -/
inductive OS (w : World) : List Ty → Value → (Nat → Prop) → Prop
  | none (F : Nat → Prop) : OS w [] (.slice none 0 0) F
  | row {ts : List Ty} {b c : Nat} {F : Nat → Prop} (K : Nat → Int) (S : Nat → Value) (G : Nat → Nat → Prop) (hrow : Row w b ts.length c K S) (hm : c ≤ maxLen) (hF : F b)
      (hk : ∀ j x, ts[j]? = some x → K j = x.kind) (hr : ∀ j x, ts[j]? = some x → OS w x.args (S j) (G j))
      (hG : ∀ j x, j < ts.length → G j x → F x ∧ x ≠ b) (hd : ∀ i j x, i < ts.length → j < ts.length → i ≠ j → G i x → G j x → False) : OS w ts (.slice (some ⟨b, 0, Option.none⟩) ts.length c) F

theorem OS.stays {w w' : World} {F : Nat → Prop} {ts : List Ty} {v : Value} (h : OS w ts v F) : Stays F w w' → OS w' ts v F := by
  induction h with
  | none F => intro _; exact .none F
  | row K S G hrow hm hF hk hr hG hd ih =>
    intro hs
    refine .row K S G (hrow.of_block (hs.2 _ hF hrow.lt)) hm hF hk (fun j x hj => ih j x hj ⟨hs.1, fun b hb hl => hs.2 b (hG j b (List.getElem?_eq_some_iff.1 hj).1 hb).1 hl⟩) hG hd
theorem OS.keep {w w' : World} {F : Nat → Prop} {ts : List Ty} {v : Value} (h : OS w ts v F) (hb : Below w.heap.size w w') : OS w' ts v F := h.stays (.of_below hb)
theorem OS.mono {w : World} {F F' : Nat → Prop} {ts : List Ty} {v : Value} (h : OS w ts v F) (hF' : ∀ b, F b → F' b) : OS w ts v F' := by
  cases h with
  | none F => exact .none F'
  | row K S G hrow hm hF hk hr hG hd => exact .row K S G hrow hm (hF' _ hF) hk hr (fun j x hj hx => ⟨hF' _ (hG j x hj hx).1, (hG j x hj hx).2⟩) hd
theorem OS.ts {w : World} {F : Nat → Prop} {ts : List Ty} {v : Value} (h : OS w ts v F) : TS w F ts v := by
  induction h with
  | none F => exact .nil _ _
  | @row ts b c F K S G hrow hm hF hk hr hG hd ih =>
    cases ts with
    | nil => exact .nil _ _
    | cons x r =>
      refine .cons S (by simp) hrow.choose_spec.2.2.1 (by unfold maxLen at hm; omega) hF hrow.lt (fun j y hj => ?_) (fun j y hj => ?_) (fun j y hj => ?_)
      · have hlt := (List.getElem?_eq_some_iff.1 hj).1
        rw [Nat.zero_add, hrow.kind hlt, hk j y hj]
      · have hlt := (List.getElem?_eq_some_iff.1 hj).1
        rw [Nat.zero_add, hrow.args hlt]
      · have hlt := (List.getElem?_eq_some_iff.1 hj).1
        exact (ih j y hj).mono (fun b hb _ => (hG j b hlt hb).1)
/-- A struct value that is a type whose rows are the call's own. -/
def OT (w : World) (t : Ty) (v : Value) (F : Nat → Prop) : Prop := ∃ s, v = .agg #[.int .i64 t.kind, s] ∧ OS w t.args s F
theorem OT.tt {w : World} {F : Nat → Prop} {t : Ty} {v : Value} (h : OT w t v F) : TT w F t v := by
  obtain ⟨s, hv, h⟩ := h
  exact ⟨s, hv, h.ts⟩
theorem OT.keep {w w' : World} {F : Nat → Prop} {t : Ty} {v : Value} (h : OT w t v F) (hb : Below w.heap.size w w') : OT w' t v F := by
  obtain ⟨s, hv, h⟩ := h
  exact ⟨s, hv, h.keep hb⟩
theorem OS.form {w : World} {F : Nat → Prop} {ts : List Ty} {v : Value} (h : OS w ts v F) : ∃ a c, v = .slice a ts.length c := h.ts.form

/-- A row that is being filled, place by place: k of ts are there. -/
def Fill (w : World) (b n c : Nat) (ts : List Ty) (k : Nat) : Prop :=
  ∃ (K : Nat → Int) (S : Nat → Value) (G : Nat → Nat → Prop), Row w b n c K S ∧ (∀ j x, j < k → ts[j]? = some x → K j = x.kind ∧ OS w x.args (S j) (G j)) ∧
    (∀ j x, j < k → G j x → b < x ∧ x < w.heap.size) ∧ (∀ i j x, i < k → j < k → i ≠ j → G i x → G j x → False)
theorem Fill.lt {w : World} {b n c k : Nat} {ts : List Ty} (h : Fill w b n c ts k) : b < w.heap.size := by
  obtain ⟨K, S, G, h, _⟩ := h
  exact h.lt
theorem Fill.start {w : World} {b n c : Nat} {K : Nat → Int} {S : Nat → Value} {ts : List Ty} (h : Row w b n c K S) : Fill w b n c ts 0 :=
  ⟨K, S, fun _ _ => False, h, fun j x hj => by omega, fun j x hj => by omega, fun i j x hi => by omega⟩
theorem setCell_stays (w : World) (b : Nat) (i : Nat) (v : Value) (F : Nat → Prop) (h : ¬ F b) : Stays F w (w.setCell ⟨b, i, none⟩ v) :=
  ⟨((Below.refl b w).setCell (p := ⟨b, i, none⟩) (Nat.le_refl _) v).size, fun k hk _ => Below.heap_setCell _ _ _ _ (fun e => h (by rw [← (show k = b from e)]; exact hk))⟩
/-- The k-th place is filled with a type that was made behind. -/
theorem Fill.next {w w1 : World} {b n c k : Nat} {ts : List Ty} (h : Fill w b n c ts k) (hb : Below w.heap.size w w1) {x : Ty} (hx : ts[k]? = some x) {s : Value}
    (ho : OS w1 x.args s (fun g => w.heap.size ≤ g ∧ g < w1.heap.size)) (hkn : k < n) :
    Fill ((w1.setCell ⟨b, k * 2, none⟩ (.int .i64 x.kind)).setCell ⟨b, k * 2 + 1, none⟩ s) b n c ts (k + 1) := by
  obtain ⟨K, S, G, hrow, ht, hg, hd⟩ := h
  have hlt := hrow.lt
  have e0 : ((w1.setCell ⟨b, k * 2, none⟩ (.int .i64 x.kind)).setCell ⟨b, k * 2 + 1, none⟩ s).heap.size = w1.heap.size := by
    simp [World.setCell]
  have stay : ∀ F : Nat → Prop, ¬ F b → Stays F w1 ((w1.setCell ⟨b, k * 2, none⟩ (.int .i64 x.kind)).setCell ⟨b, k * 2 + 1, none⟩ s) := fun F hF => (setCell_stays _ _ _ _ F hF).trans (setCell_stays _ _ _ _ F hF)
  refine ⟨fun j => if j = k then x.kind else K j, fun j => if j = k then s else S j, fun j => if j = k then (fun g => w.heap.size ≤ g ∧ g < w1.heap.size) else G j, ((hrow.below hb).setKind k _).setArgs k s, fun j y hj hy => ?_, fun j y hj hy => ?_, fun i j y hi hj hij h1 h2 => ?_⟩
  · by_cases e : j = k
    · subst e
      rw [hx] at hy; cases hy
      simp only [if_true, true_and]
      exact ho.stays (stay _ (by simp; omega))
    · simp only [if_neg e]
      obtain ⟨e1, e2⟩ := ht j y (by omega) hy
      exact ⟨e1, (e2.keep hb).stays (stay _ (fun hh => by have := hg j b (by omega) hh; omega))⟩
  · rw [e0]
    by_cases e : j = k
    · subst e
      simp only [if_true] at hy
      have := hb.size
      omega
    · simp only [if_neg e] at hy
      have := hg j y (by omega) hy
      have := hb.size
      omega
  · dsimp only at h1 h2
    by_cases ei : i = k
    · subst ei
      simp only [if_true] at h1
      rw [if_neg (by omega)] at h2
      have := hg j y (by omega) h2
      omega
    · rw [if_neg ei] at h1
      by_cases ej : j = k
      · subst ej
        simp only [if_true] at h2
        have := hg i y (by omega) h1
        omega
      · rw [if_neg ej] at h2
        exact hd i j y (by omega) (by omega) hij h1 h2
theorem Fill.frz {w w1 : World} {b n c k : Nat} {ts : List Ty} (h : Fill w b n c ts k) (hb : Below w.heap.size w w1) (i : Nat) : w1.frozen? ⟨b, i, none⟩ = false := by
  obtain ⟨K, S, G, hrow, _⟩ := h
  exact (hrow.below hb).frozen i
theorem Fill.next2 {w w1 : World} {b n c k : Nat} {ts : List Ty} (h : Fill w b n c ts k) (hb : Below w.heap.size w w1) {x : Ty} (hx : ts[k]? = some x) {s : Value}
    (ho : OS w1 x.args s (fun g => w.heap.size ≤ g ∧ g < w1.heap.size)) (hkn : k < n) :
    ((∃ q, w1.cell? ⟨b, k * 2, none⟩ = some (.int .i64 q)) ∧ (∃ q, w1.cell? ⟨b, k * 2 + 1, none⟩ = some q)) ∧
    Fill ((w1.setCell ⟨b, k * 2, none⟩ (.int .i64 x.kind)).setCell ⟨b, k * 2 + 1, none⟩ s) b n c ts (k + 1) := by
  refine ⟨?_, h.next hb hx ho hkn⟩
  obtain ⟨K, S, G, hrow, _⟩ := h
  exact ⟨⟨_, (hrow.below hb).kind hkn⟩, ⟨_, (hrow.below hb).args hkn⟩⟩
theorem Fill.full {w : World} {b c : Nat} {ts : List Ty} (h : Fill w b ts.length c ts ts.length) (hm : c ≤ maxLen) : OS w ts (.slice (some ⟨b, 0, none⟩) ts.length c) (fun g => b ≤ g ∧ g < w.heap.size) := by
  obtain ⟨K, S, G, hrow, ht, hg, hd⟩ := h
  refine .row K S G hrow hm ⟨Nat.le_refl _, hrow.lt⟩ (fun j x hj => (ht j x (List.getElem?_eq_some_iff.1 hj).1 hj).1) (fun j x hj => (ht j x (List.getElem?_eq_some_iff.1 hj).1 hj).2) (fun j x hj hx => ?_) hd
  have := hg j x hj hx
  exact ⟨⟨by omega, by omega⟩, by omega⟩
end Go.Proofs.YtnciibngcaajgaaDoor
/- TyCopy: The contract of the laws' toTypeS and toType: the same type, in rows of the call's own. -/
namespace Go.Proofs.YtnciibngcaajgaaDoor
open Go Go.RowKit

/-- A new type: the same as t, in blocks that were not there. -/
def NewT (t : Ty) (w : World) (e : Ending) (w' : World) : Prop := ∃ v, e = .returned v ∧ OT w' t v (fun g => w.heap.size ≤ g ∧ g < w'.heap.size) ∧ Below w.heap.size w w'
def NewTS (ts : List Ty) (w : World) (e : Ending) (w' : World) : Prop := ∃ v, e = .returned v ∧ OS w' ts v (fun g => w.heap.size ≤ g ∧ g < w'.heap.size) ∧ Below w.heap.size w w'

theorem blk_new (w : World) (o : Obj) : (w.alloc o).heap[w.heap.size]? = some o := by
  show (w.heap.push o)[w.heap.size]? = _
  simp
theorem results_cell1 {fn : Func} {p : Tmp} {ty : TypeId} (h : fn.results = #[.cell p ty]) (tmps : Array Value) (P : Program) (w : World) :
    (results fn tmps).run P w = ((asAddr (tmps.getD p undef)).run P w).andThen fun a w₁ => (loadVar ty a).run P w₁ := by
  simp only [results, h]
  simp [Sem.run_bind, Result.andThen]

theorem blocks3 (w w1 : World) (A B C : Array Value) (tA tB tC : TypeId) (h : Below (((w.alloc (.cells A tA)).alloc (.cells B tB)).alloc (.cells C tC)).heap.size (((w.alloc (.cells A tA)).alloc (.cells B tB)).alloc (.cells C tC)) w1) :
    w1.heap[w.heap.size + 1]? = some (.cells B tB (0, 0)) ∧ w1.heap[w.heap.size + 1 + 1]? = some (.cells C tC (0, 0)) := by
  have s1 : (w.alloc (.cells A tA)).heap.size = w.heap.size + 1 := by simp
  have s2 : ((w.alloc (.cells A tA)).alloc (.cells B tB)).heap.size = w.heap.size + 1 + 1 := by simp
  constructor
  · rw [h.block _ (by simp), Below.heap_alloc _ _ _ (by simp), ← s1]
    exact blk_new _ _
  · rw [h.block _ (by simp), ← s2]
    exact blk_new _ _
theorem cell_of_blk {w : World} {g : Nat} {cs : Array Value} {t : TypeId} {fr : Nat × Nat} (h : w.heap[g]? = some (.cells cs t fr)) (i : Nat) : w.cell? ⟨g, i, none⟩ = cs[i]? := by simp [World.cell?, h]
theorem unfrozen_of_blk {w : World} {g : Nat} {cs : Array Value} {t : TypeId} (h : w.heap[g]? = some (.cells cs t (0, 0))) (i : Nat) : w.frozen? ⟨g, i, none⟩ = false := by simp [World.frozen?, h]

theorem newT_done {k : Int} {ts : List Ty} {w W w1 : World} {n q : Nat} {p : Option Addr} {i1 i2 i3 : Nat} {v1 v2 v3 : Value} (ho : OS w1 ts (.slice p n q) (fun g => W.heap.size ≤ g ∧ g < w1.heap.size)) (hb : Below w.heap.size w w1)
    (hW : w.heap.size + 1 + 1 < W.heap.size) :
    NewT (.mk k ts) w (.returned (.agg #[.int .i64 k, .slice p n q])) (((w1.setCell ⟨w.heap.size + 1 + 1, i1, none⟩ v1).setCell ⟨w.heap.size + 1, i2, none⟩ v2).setCell ⟨w.heap.size + 1, i3, none⟩ v3) := by
  have hs : (((w1.setCell ⟨w.heap.size + 1 + 1, i1, none⟩ v1).setCell ⟨w.heap.size + 1, i2, none⟩ v2).setCell ⟨w.heap.size + 1, i3, none⟩ v3).heap.size = w1.heap.size := by simp [World.setCell]
  refine ⟨_, rfl, ⟨_, rfl, OS.mono (ho.stays (((setCell_stays _ _ _ _ _ (by omega)).trans (setCell_stays _ _ _ _ _ (by omega))).trans (setCell_stays _ _ _ _ _ (by omega)))) (fun b hb => ?_)⟩, ((hb.setCell (p := ⟨w.heap.size + 1 + 1, i1, none⟩) (by show w.heap.size ≤ w.heap.size + 1 + 1; omega) _).setCell (p := ⟨w.heap.size + 1, i2, none⟩) (by show w.heap.size ≤ w.heap.size + 1; omega) _).setCell (p := ⟨w.heap.size + 1, i3, none⟩) (by show w.heap.size ≤ w.heap.size + 1; omega) _⟩
  rw [hs]
  omega

set_option maxRecDepth 100000 in
set_option maxHeartbeats 1000000 in
theorem toT_of (k : Int) (p : Option Addr) (l c : Nat) (ts : List Ty) (w : World)
    (h : ∀ w', Below w.heap.size w w' → Calls Tryd.prog 67 #[.slice p l c] w' (NewTS ts w')) :
    Calls Tryd.prog 44 #[.agg #[.int .i64 k, .slice p l c]] w (NewT (.mk k ts) w) := by
  have HH := Lib.hid h
  have HB := Lib.hid ((((Below.refl w.heap.size w).alloc (Nat.le_refl _) (Obj.cells #[.int .i64 k, .slice p l c] 40)).alloc (by simp) (Obj.cells #[.int .i64 0, .slice none 0 0] 26)).alloc (by simp; omega) (Obj.cells #[.int .i64 k, .slice none 0 0] 26))
  clear h
  go_enter Tryd.func44, Tryd.ntmps44
  go_wp2_with fail
  refine (HH.out _ HB.out).mono ?_
  rintro e w1 ⟨s, rfl, ho, hb1⟩
  obtain ⟨b1, b2⟩ := blocks3 _ _ _ _ _ _ _ _ hb1
  have c10 := cell_of_blk b1 0
  have c11 := cell_of_blk b1 1
  have c20 := cell_of_blk b2 0
  have c21 := cell_of_blk b2 1
  have z1 := unfrozen_of_blk b1
  have z2 := unfrozen_of_blk b2
  simp only [List.getElem?_toArray, List.getElem?_cons_zero, List.getElem?_cons_succ] at c10 c11 c20 c21
  obtain ⟨p', q', hf⟩ := ho.form
  subst hf
  have HO := Lib.hid ho
  have HB1 := Lib.hid (HB.out.trans (hb1.mono HB.out.size))
  clear ho hb1 b1 b2
  go_wp2_with fail
  refine bodyPost_ret (v := .agg #[.int .i64 k, .slice p' ts.length q']) ?_ rfl ?_
  · rw [results_cell1 rfl]
    go_simp
  · exact newT_done HO.out HB1.out (by simp)

/-- The zero type, as often as is asked. -/
theorem zeros_at (n j : Nat) (h : j < n) : (madeCells (#[Value.int .i64 0, Value.slice none 0 0]) (n * 2)).toList[j * 2]? = some (.int .i64 0) ∧ (madeCells (#[Value.int .i64 0, Value.slice none 0 0]) (n * 2)).toList[j * 2 + 1]? = some (.slice none 0 0) := by
  have h1 : j * 2 < n * 2 := by omega
  have h2 : j * 2 + 1 < n * 2 := by omega
  have e2 : (j * 2 + 1) % 2 = 1 := by omega
  constructor
  · simp [madeCells, h1]
  · simp [madeCells, h2, e2]

set_option maxRecDepth 100000 in
set_option maxHeartbeats 1000000 in
theorem toS_any {w0 : World} {C : Nat → Prop} {ts : List Ty} {v : Value} (h : TS w0 C ts v) : ∀ (w : World), Stays C w0 w → nodesS ts ≤ 1048576 →
    Calls Tryd.prog 67 #[v] w (NewTS ts w) := by
  obtain ⟨i0, hi, hz0, hz1, hz2⟩ := info_parts infoTy
  induction h with
  | nil a c =>
    intro w hst hn
    go_enter Tryd.func67, Tryd.ntmps67
    go_wp2_with (at_make; refine wpList_make_full _ rfl _ _ 24 rfl w.heap.size 26 i0 (.agg #[.int .i64 0, .slice none 0 0]) 2 Tryd.underlying24 hi hz0 hz1 .i64 .i64 _ _ 0 rfl rfl rfl rfl ?c1 ?c2 ?c3 ?_)
    case c1 => omega
    case c2 => unfold maxLen; omega
    case c3 => exact Nat.le_refl _
    intro w1 hown0 hg
    have hb1 : Below w.heap.size w w1 := (Below.refl _ _).grown hg (Nat.le_refl _) (fun k h => by cases h)
    have ho := (Row.of_owns (K := fun _ => 0) (S := fun _ => .slice none 0 0) hown0 (fun j hj => by omega)).1
    have HO := Lib.hid (Fill.start (ts := []) ho)
    clear hown0 hg ho
    go_wp2_with fail
    go_loopw [4] (fun i wr => i = .int .i64 0 ∧ wr = w1) (fun _ _ => 0)
    case atStart => exact ⟨rfl, rfl⟩
    case round =>
      obtain ⟨rfl, rfl⟩ := hrel
      go_wp2_with fail
      go_ret
      exact ⟨_, rfl, HO.out.full (by unfold maxLen; omega), hb1⟩
  | @cons ts b o c S h1 hc hm hC hb hk hs hr ih =>
    intro w hst hn
    have hlen := nodesS_ge ts
    have HIH := Lib.hid ih
    have HST := Lib.hid hst
    have HK := Lib.hid (fun j x (e : ts[j]? = some x) (w' : World) (hw : Stays C w0 w') => (World.cell?_of_block (w := w0) (a := ⟨b, o + j * 2, none⟩) (hw.2 b hC hb)).trans (hk j x e))
    have HS := Lib.hid (fun j x (e : ts[j]? = some x) (w' : World) (hw : Stays C w0 w') => (World.cell?_of_block (w := w0) (a := ⟨b, o + j * 2 + 1, none⟩) (hw.2 b hC hb)).trans (hs j x e))
    have HF := Lib.hid (fun j x (e : ts[j]? = some x) => (hr j x e).form)
    clear hk hs hr ih hst hC hb
    go_enter Tryd.func67, Tryd.ntmps67
    go_wp2_with (at_make; refine wpList_make_full _ rfl _ _ 24 rfl w.heap.size 26 i0 (.agg #[.int .i64 0, .slice none 0 0]) 2 Tryd.underlying24 hi hz0 hz1 .i64 .i64 _ _ ts.length rfl rfl rfl rfl ?c1 ?c2 ?c3 ?_)
    case c1 => rw [hz2]; omega
    case c2 => unfold maxLen; omega
    case c3 => exact Nat.le_refl _
    intro w1 hown0 hg
    have hb1 : Below w.heap.size w w1 := (Below.refl _ _).grown hg (Nat.le_refl _) (fun k h => by cases h)
    have ho := (Row.of_owns (K := fun _ => 0) (S := fun _ => .slice none 0 0) hown0 (fun j hj => zeros_at _ j hj)).1
    have HO := Lib.hid (Fill.start (ts := ts) ho)
    clear hown0 hg ho
    go_wp2_with fail
    go_loopw [4] (fun i wr => ∃ k : Nat, k ≤ ts.length ∧ i = .int .i64 k ∧ Fill wr w.heap.size ts.length ts.length ts k ∧ Below w.heap.size w wr) (fun i _ => ts.length - (intOf i).toNat)
    case atStart => exact ⟨0, Nat.zero_le _, rfl, HO.out, hb1⟩
    case round =>
      obtain ⟨k, hk, rfl, hfill, hbr⟩ := hrel
      have HFI := Lib.hid hfill
      have HB := Lib.hid hbr
      have HSR := Lib.hid (HST.out.trans (Stays.of_below (C := C) hbr))
      clear hb1 hfill hbr
      by_cases hlk : k < ts.length
      · have e := List.getElem?_eq_getElem hlk
        have c1 := HK.out k _ e wr HSR.out
        have c2 := HS.out k _ e wr HSR.out
        obtain ⟨p, q, hf⟩ := HF.out k _ e
        have hnk := nodesS_at ts k hlk
        have HC := Lib.hid (toT_of ts[k].kind p ts[k].args.length q ts[k].args wr (fun w' hw' => by
          have hh := HIH.out k _ e w' (HSR.out.trans (.of_below hw')) (by omega)
          rw [hf] at hh
          exact hh))
        rw [hf] at c2
        have HE := Lib.hid e
        clear e hf hnk
        go_wp2_with fail
        refine HC.out.mono ?_
        rintro e w2 ⟨v, rfl, ⟨s, rfl, hos⟩, hb2⟩
        obtain ⟨p2, q2, hf2⟩ := hos.form
        simp only [Ty.args_mk] at hos hf2
        subst hf2
        have hlt := Nat.lt_of_lt_of_le HFI.out.lt hb2.size
        obtain ⟨hrow, hgo⟩ := HFI.out.next2 hb2 HE.out hos hlk
        obtain ⟨⟨q3, x1⟩, ⟨q4, x2⟩⟩ := hrow
        have z1 := fun i => HFI.out.frz hb2 i
        have HN := Lib.hid hgo
        have HB2 := Lib.hid (((HB.out.trans (hb2.mono HB.out.size)).setCell (p := ⟨w.heap.size, k * 2, none⟩) (Nat.le_refl _) (.int .i64 ts[k].kind)).setCell (p := ⟨w.heap.size, k * 2 + 1, none⟩) (Nat.le_refl _) (.slice p2 ts[k].args.length q2))
        clear hgo hos hb2
        go_wp2_with fail
        go_roundw
        case rel => exact ⟨k + 1, by omega, by go_num, HN.out, HB2.out⟩
        case measure => simp [intOf]; omega
      · obtain rfl : k = ts.length := by omega
        go_wp2_with fail
        go_ret
        exact ⟨_, rfl, HFI.out.full (by unfold maxLen; omega), HB.out⟩
/-- THE LAWS' toType, AT EVERY TYPE. -/
theorem toT_any {C : Nat → Prop} {t : Ty} {v : Value} {w : World} (h : TT w C t v) (hn : nodesS t.args ≤ 1048576) : Calls Tryd.prog 44 #[v] w (NewT t w) := by
  obtain ⟨s, rfl, h⟩ := h
  obtain ⟨p, c, rfl⟩ := h.form
  have := toT_of t.kind p t.args.length c t.args w (fun w' hb => toS_any h w' (.of_below hb) hn)
  cases t
  exact this
#print axioms toT_any
end Go.Proofs.YtnciibngcaajgaaDoor
/- TyInd: Induction over a type that lies in memory; facts on a parameter's box; the figures of a type. -/
namespace Go.Proofs.YtnciibngcaajgaaDoor
open Go Go.RowKit

/-- INDUCTION OVER A TYPE IN MEMORY: each part at its place, in every world that keeps the blocks. -/
theorem TS.ind {w0 : World} {C : Nat → Prop} {motive : List Ty → Value → Prop}
    (step : ∀ (ts : List Ty) (p : Option Addr) (c : Nat), ts.length ≤ 9223372036854775807 →
      (∀ (j : Nat) (x : Ty), ts[j]? = some x → ∃ (b o : Nat) (p' : Option Addr) (c' : Nat), p = some ⟨b, o, none⟩ ∧
        (∀ w', Stays C w0 w' → w'.cell? ⟨b, o + j * 2, none⟩ = some (.int .i64 x.kind) ∧ w'.cell? ⟨b, o + j * 2 + 1, none⟩ = some (.slice p' x.args.length c')) ∧
        TS w0 C x.args (.slice p' x.args.length c') ∧ motive x.args (.slice p' x.args.length c')) → motive ts (.slice p ts.length c))
    {ts : List Ty} {v : Value} (h : TS w0 C ts v) : motive ts v := by
  induction h with
  | nil a c => exact step [] a c (by simp) (fun j x hj => by simp at hj)
  | @cons ts b o c S h1 hc hm hC hb hk hs hr ih =>
    refine step ts _ c (by omega) (fun j x hj => ?_)
    obtain ⟨p', c', hf⟩ := (hr j x hj).form
    refine ⟨b, o, p', c', rfl, fun w' hw => ⟨?_, ?_⟩, hf ▸ hr j x hj, hf ▸ ih j x hj⟩
    · exact (World.cell?_of_block (w := w0) (a := ⟨b, o + j * 2, none⟩) (hw.2 b hC hb)).trans (hk j x hj)
    · rw [← hf]; exact (World.cell?_of_block (w := w0) (a := ⟨b, o + j * 2 + 1, none⟩) (hw.2 b hC hb)).trans (hs j x hj)

/-- A part of a slice of types, in every world that keeps the blocks. -/
theorem TS.at {w0 : World} {C : Nat → Prop} {ts : List Ty} {p : Option Addr} {n c : Nat} (h : TS w0 C ts (.slice p n c)) : ∀ (j : Nat) (x : Ty), ts[j]? = some x → ∃ (b o : Nat) (p' : Option Addr) (c' : Nat), p = some ⟨b, o, none⟩ ∧
    (∀ w', Stays C w0 w' → w'.cell? ⟨b, o + j * 2, none⟩ = some (.int .i64 x.kind) ∧ w'.cell? ⟨b, o + j * 2 + 1, none⟩ = some (.slice p' x.args.length c')) ∧ TS w0 C x.args (.slice p' x.args.length c') := by
  have key := TS.ind (motive := fun ts v => ∀ (p : Option Addr) (n c : Nat), v = .slice p n c → ∀ (j : Nat) (x : Ty), ts[j]? = some x → ∃ (b o : Nat) (p' : Option Addr) (c' : Nat), p = some ⟨b, o, none⟩ ∧
    (∀ w', Stays C w0 w' → w'.cell? ⟨b, o + j * 2, none⟩ = some (.int .i64 x.kind) ∧ w'.cell? ⟨b, o + j * 2 + 1, none⟩ = some (.slice p' x.args.length c')) ∧ TS w0 C x.args (.slice p' x.args.length c')) (fun ts p c _ H p2 n2 c2 e j x hj => by
      obtain ⟨b, o, p', c', hp, hc, hT, _⟩ := H j x hj
      simp only [Value.slice.injEq] at e
      exact ⟨b, o, p', c', e.1 ▸ hp, hc, hT⟩) h
  exact key p n c rfl

/-- A parameter's box in a later world. -/
theorem box_blk (w w' : World) (A : Array Value) (t : TypeId) (h : Below (w.alloc (.cells A t)).heap.size (w.alloc (.cells A t)) w') : w'.heap[w.heap.size]? = some (.cells A t (0, 0)) := by
  rw [h.block _ (by simp)]
  exact blk_new _ _
theorem box2 {w w' : World} {a b : Value} {t : TypeId} (h : Below (w.alloc (.cells #[a, b] t)).heap.size (w.alloc (.cells #[a, b] t)) w') : w'.cell? ⟨w.heap.size, 0, none⟩ = some a ∧ w'.cell? ⟨w.heap.size, 1, none⟩ = some b := by
  have hb := box_blk _ _ _ _ h
  exact ⟨cell_of_blk hb 0, cell_of_blk hb 1⟩
theorem below_box {w w' : World} {A : Array Value} {t : TypeId} (h : Below (w.alloc (.cells A t)).heap.size (w.alloc (.cells A t)) w') : Below w.heap.size w w' :=
  ((Below.refl w.heap.size w).alloc (Nat.le_refl _) _).trans (h.mono (by simp))

mutual
def Ty.depth : Ty → Nat
  | .mk _ ts => 1 + depthS ts
def depthS : List Ty → Nat
  | [] => 0
  | t :: ts => max t.depth (depthS ts)
end
mutual
/-- Every node has one of the four kinds with its number of parts. -/
def Ty.form : Ty → Bool
  | .mk k ts => formS ts && (if k = 1 ∨ k = 2 then ts.length == 0 else if k = 3 then ts.length == 2 else k == 4 && ts.length == 1)
def formS : List Ty → Bool
  | [] => true
  | t :: ts => t.form && formS ts
end
mutual
def Ty.has (q : Int) : Ty → Bool
  | .mk k ts => hasS q ts || k == q
def hasS (q : Int) : List Ty → Bool
  | [] => false
  | t :: ts => t.has q || hasS q ts
end
theorem depthS_append (a b : List Ty) : depthS (a ++ b) = max (depthS a) (depthS b) := by
  induction a with
  | nil => simp [depthS]
  | cons x a ih => simp only [List.cons_append, depthS, ih]; omega
theorem formS_append (a b : List Ty) : formS (a ++ b) = (formS a && formS b) := by
  induction a with
  | nil => simp [formS]
  | cons x a ih => simp [formS, ih, Bool.and_assoc]
theorem hasS_append (q : Int) (a b : List Ty) : hasS q (a ++ b) = (hasS q a || hasS q b) := by
  induction a with
  | nil => simp [hasS]
  | cons x a ih => simp [hasS, ih, Bool.or_assoc]
theorem take_next {ts : List Ty} {k : Nat} (h : k < ts.length) : ts.take (k + 1) = ts.take k ++ [ts[k]] := by
  rw [List.take_add_one, List.getElem?_eq_getElem h]; rfl
theorem Ty.eta (t : Ty) : t = .mk t.kind t.args := by cases t; rfl
theorem depth_at (t : Ty) : t.depth = 1 + depthS t.args := by cases t; simp [Ty.depth]
theorem Ty.has_at (q : Int) (t : Ty) : t.has q = (hasS q t.args || t.kind == q) := by cases t; simp [Ty.has]
theorem depth_le (ts : List Ty) (h : ∀ t ∈ ts, t.depth ≤ t.nodes) : depthS ts ≤ nodesS ts := by
  induction ts with
  | nil => simp [depthS]
  | cons t ts ih =>
    have h1 := h t (List.mem_cons_self ..)
    have h2 := ih (fun u hu => h u (List.mem_cons_of_mem _ hu))
    simp only [depthS, nodesS]
    omega
theorem Ty.depth_nodes : ∀ t : Ty, t.depth ≤ t.nodes
  | .mk k ts => by
    have := depth_le ts (fun t _ => Ty.depth_nodes t)
    simp only [Ty.depth, Ty.nodes]
    omega
theorem depthS_nodes (ts : List Ty) : depthS ts ≤ nodesS ts := depth_le ts (fun t _ => t.depth_nodes)
theorem nodesS_take_next (ts : List Ty) (k : Nat) (h : k < ts.length) : nodesS (ts.take (k + 1)) = nodesS (ts.take k) + ts[k].nodes := by
  rw [take_next h, nodesS_append]; simp [nodesS]
theorem depthS_take_next (ts : List Ty) (k : Nat) (h : k < ts.length) : depthS (ts.take (k + 1)) = max (depthS (ts.take k)) ts[k].depth := by
  rw [take_next h, depthS_append]; simp [depthS]
theorem depthS_at (ts : List Ty) (k : Nat) (h : k < ts.length) : depthS (ts.take k) ≤ 1048576 ∧ ts[k].depth ≤ 1048576 ∨ 1048576 < nodesS ts := by
  have h1 := depthS_nodes (ts.take k)
  have h2 := ts[k].depth_nodes
  have h3 := nodesS_take_next ts k h
  have h4 := nodesS_take_le ts (k + 1)
  omega
end Go.Proofs.YtnciibngcaajgaaDoor
/- OpenT: An argument that is a type, opened: the tree that it reads as. -/
namespace Go.Proofs.YtnciibngcaajgaaDoor
open Go Go.ChangeShapes Go.WideShapes Go.RowKit

theorem cells_ty : Tryd.prog.cellsOf 40 = 2 := by kernel_rfl
theorem cells_int : Tryd.prog.cellsOf 3 = 1 := by kernel_rfl
theorem cells_sl : Tryd.prog.cellsOf 38 = 1 := by kernel_rfl

section
variable {H : Type} {enc : TypeId × Value → H} {w : World} {spare : Nat → Bool} {held : Bool}

theorem cell_of_cells2 {a : Addr} {cs : List Value} {base i : Nat} (h : w.cells? base (a.add (i * 2)) 2 = some cs) : ∃ u v, cs = [u, v] ∧ w.cell? (a.add (i * 2)) = some u ∧ w.cell? (a.add (i * 2 + 1)) = some v := by
  unfold World.cells? at h
  split at h
  · have e : (List.range 2) = [0, 1] := rfl
    rw [e] at h
    simp only [List.mapM_cons, List.mapM_nil, Option.bind_eq_bind, Option.bind_eq_some_iff, Option.pure_def, Option.some.injEq] at h
    obtain ⟨u, hu, l, ⟨v, hv, l', rfl, rfl⟩, rfl⟩ := h
    rw [Go.Deep.add_add] at hu hv
    exact ⟨u, v, rfl, hu, hv⟩
  · cases h

set_option maxRecDepth 100000 in
/-- What a type's two cells read as; what a slice of types reads as. -/
theorem open_ty : ∀ (fuel : Nat), (∀ (cs : List Value) (x : DataW H × List MemPlace), DataW.trod enc Tryd.prog w 0 spare held fuel 40 cs = some x → ∃ (k : Int) (s : Value) (ts : List Ty), cs = [.int .i64 k, s] ∧ TS w (fun _ => True) ts s) ∧
    (∀ (cs : List Value) (x : DataW H × List MemPlace), DataW.trod enc Tryd.prog w 0 spare held fuel 38 cs = some x → ∃ (s : Value) (ts : List Ty), cs = [s] ∧ TS w (fun _ => True) ts s) := by
  intro fuel
  induction fuel using Nat.strongRecOn with
  | _ fuel IH =>
    constructor
    · intro cs x h
      obtain ⟨xs, n, hn, _, hl, hlen, hf⟩ := DataW.trod_struct Tryd.underlying40 h
      rw [cells_ty] at hl
      have g0 : DataW.trod enc Tryd.prog w 0 spare held n 3 ((cs.drop 0).take (Tryd.prog.cellsOf 3)) = xs[0]? := hf 0 _ rfl
      have g1 : DataW.trod enc Tryd.prog w 0 spare held n 38 ((cs.drop 1).take (Tryd.prog.cellsOf 38)) = xs[1]? := hf 1 _ rfl
      rw [cells_int] at g0
      rw [cells_sl] at g1
      match cs, hl, xs, hlen with
      | [c0, c1], _, [y0, y1], _ =>
        obtain ⟨k, hk, _, _⟩ := DataW.trod_int Tryd.underlying3 g0
        obtain ⟨s, ts, hs, ht⟩ := (IH n (by omega)).2 _ _ g1
        simp at hk hs
        subst hk hs
        exact ⟨k, _, ts, rfl, ht⟩
    · intro cs x h
      rcases DataW.trod_slice Tryd.underlying38 h with ⟨rfl, _⟩ | ⟨a, len, cap, elems, rest, n, hn, rfl, _, _, hl, hm, hlen, hel, _, _⟩
      · exact ⟨_, [], rfl, .nil _ _⟩
      · by_cases h0 : len = 0
        · subst h0
          exact ⟨_, [], rfl, .nil _ _⟩
        rw [cells_ty] at hel
        have each : ∀ i, i < len → ∃ z : Int × Value × List Ty, w.cell? (a.add (i * 2)) = some (.int .i64 z.1) ∧ w.cell? (a.add (i * 2 + 1)) = some z.2.1 ∧ TS w (fun _ => True) z.2.2 z.2.1 := by
          intro i hi
          have hb := hel i hi
          rw [List.getElem?_eq_getElem (by omega), Option.bind_eq_some_iff] at hb
          obtain ⟨cs', hcs, ht⟩ := hb
          obtain ⟨k, s, ts, rfl, hT⟩ := (IH n (by omega)).1 _ _ ht
          obtain ⟨u, v, huv, hu, hv⟩ := cell_of_cells2 hcs
          simp only [List.cons.injEq, and_true] at huv
          obtain ⟨rfl, rfl⟩ := huv
          exact ⟨(k, s, ts), hu, hv, hT⟩
        obtain ⟨f, hf⟩ := Go.Deep.choose_lt (α := Int × Value × List Ty) each
        have hspot : a.spot = none := by simpa [Addr.add] using World.cell?_spot (hf 0 (by omega)).1
        obtain ⟨b, o, sp⟩ := a
        simp only at hspot
        subst hspot
        simp only [Go.WideShapes.add_plain] at hf
        have hb : b < w.heap.size := World.block_lt_of_cell? w _ (hf 0 (by omega)).1
        have hlen2 : ((List.range len).map fun i => Ty.mk (f i).1 (f i).2.2).length = len := by simp
        have at_ : ∀ j x, ((List.range len).map fun i => Ty.mk (f i).1 (f i).2.2)[j]? = some x → j < len ∧ x = Ty.mk (f j).1 (f j).2.2 := by
          intro j x hj
          have hlt := (List.getElem?_eq_some_iff.1 hj).1
          rw [hlen2] at hlt
          simp [hlt] at hj
          exact ⟨hlt, hj.symm⟩
        refine ⟨_, (List.range len).map fun i => Ty.mk (f i).1 (f i).2.2, rfl, ?_⟩
        have key := TS.cons (w := w) (C := fun _ => True) (ts := (List.range len).map fun i => Ty.mk (f i).1 (f i).2.2) (b := b) (o := o) (c := cap) (fun j => (f j).2.1) (by omega) (by omega) (by unfold maxLen at hm; omega) trivial hb
          (fun j x hj => by
            obtain ⟨hlt, rfl⟩ := at_ j x hj
            exact (hf j hlt).1)
          (fun j x hj => by
            obtain ⟨hlt, rfl⟩ := at_ j x hj
            exact (hf j hlt).2.1)
          (fun j x hj => by
            obtain ⟨hlt, rfl⟩ := at_ j x hj
            exact (hf j hlt).2.2)
        rw [hlen2] at key
        exact key
end

set_option maxRecDepth 100000 in
/-- THE ARGUMENT OPENED. -/
theorem open_type {H : Type} {enc : TypeId × Value → H} {W : World} {spare : Nat → Bool} {held : Bool} {r : Reach} {b0 : Nat} {v : Value} {d : DataW H} {p : List MemPlace}
    (hv : Value.okWide Tryd.prog W r b0 40 v) (h : DataW.Trod enc Tryd.prog W 0 spare held 40 v d p) : ∃ t : Ty, TT W (fun _ => True) t v := by
  obtain ⟨cs, rfl, hsz⟩ := okWide_struct Tryd.underlying40 hv
  obtain ⟨fuel, hf⟩ := h
  obtain ⟨k, s, ts, hcs, ht⟩ := (open_ty fuel).1 _ _ hf
  have hcs' : cs = #[.int .i64 k, s] := by
    have : cs.toList = [.int .i64 k, s] := hcs
    exact Array.toList_inj.1 this
  subst hcs'
  exact ⟨.mk k ts, s, rfl, ht⟩
end Go.Proofs.YtnciibngcaajgaaDoor
