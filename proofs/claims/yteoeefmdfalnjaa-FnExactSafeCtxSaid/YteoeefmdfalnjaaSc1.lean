/-
  Several texts of the proof in one (each says below what it holds): Kit Ty TySz TyEq OwnT.
-/
import Derived.WalkKit
import Derived.WalkSpells
import Derived.WalkLawsBesides
import Derived.Lib.Hide
import Derived.Laws.IdiomStrings
import Derived.OwnWalk
import Derived.Below
import Derived.Test.YteoeefmdfalnjaaProg
import Derived.Deep.RegionHeld3
import Derived.WalkSmall
import Derived.Laws.OwnMore
/- Kit: Small facts of no program that the walks of this folder want: a one-byte string made out of a slice literal, strings put together. -/
namespace Go.Proofs.Yteoeefmdfalnjaa
open Go Go.RowKit

/-- 'string([]byte{b})' behind the laying of the literal's block. -/
theorem run_string_byte {P : Program} (w : World) (src dst e : TypeId) (n : Int) (h0 : 0 ≤ n) (h1 : n ≤ 255)
    (hs : P.underlying src = some (.slice e)) (he : P.underlying e = some (.int .u8)) (hd : P.underlying dst = some .string) :
    (convert src dst (.slice (some ⟨w.heap.size, 0, none⟩) 1 1)).run P (w.alloc (.cells #[.int .u8 n] e)) = .ok (.string ⟨#[UInt8.ofNat n.toNat]⟩) (w.alloc (.cells #[.int .u8 n] e)) := by
  have h := run_convert_bytes_back (P := P) (w.alloc (.cells #[.int .u8 n] e)) src dst e ⟨w.heap.size, 0, none⟩ 1 [UInt8.ofNat n.toNat] hs he hd (fun j hj => by
    have hj0 : j = 0 := by simpa using hj
    subst hj0
    have : (UInt8.ofNat n.toNat).toNat = n.toNat := by simp; omega
    show (w.alloc (.cells #[.int .u8 n] e)).cell? ⟨w.heap.size, 0, none⟩ = _
    rw [World.cell?_alloc_mark]
    simp only [List.getElem_cons_zero, this]
    rw [Int.toNat_of_nonneg h0]
    rfl)
  exact h

theorem str_cons (b : UInt8) (l : List UInt8) : (⟨#[b]⟩ : ByteArray) ++ ⟨l.toArray⟩ = ⟨(b :: l).toArray⟩ := by
  apply ByteArray.ext
  simp
end Go.Proofs.Yteoeefmdfalnjaa
/- Ty: Types ts trees, of no program: what a slice of types holds, that it holds it in every world that keeps its blocks; how many nodes there are. -/
namespace Go.Proofs.Yteoeefmdfalnjaa
open Go Go.RowKit

inductive Ty where
  | mk (kind : Int) (args : List Ty)
def Ty.kind : Ty → Int | .mk k _ => k
def Ty.args : Ty → List Ty | .mk _ ts => ts
@[simp] theorem Ty.kind_mk (k : Int) (ts : List Ty) : (Ty.mk k ts).kind = k := rfl
@[simp] theorem Ty.args_mk (k : Int) (ts : List Ty) : (Ty.mk k ts).args = ts := rfl

mutual
/-- The nodes of a type; of a list of types. -/
def Ty.nodes : Ty → Nat
  | .mk _ ts => 1 + nodesS ts
def nodesS : List Ty → Nat
  | [] => 0
  | a :: ts => a.nodes + nodesS ts
end
theorem Ty.nodes_eq (t : Ty) : t.nodes = 1 + nodesS t.args := by cases t; simp [Ty.nodes]
theorem nodesS_append (a b : List Ty) : nodesS (a ++ b) = nodesS a + nodesS b := by
  induction a with
  | nil => simp [nodesS]
  | cons x a ih => simp only [List.cons_append, nodesS, ih]; omega
theorem nodesS_take (ts : List Ty) (k : Nat) (h : k < ts.length) : nodesS (ts.take (k + 1)) = nodesS (ts.take k) + (1 + nodesS ts[k].args) := by
  rw [List.take_add_one, List.getElem?_eq_getElem h, nodesS_append]
  simp [nodesS, Ty.nodes_eq]
theorem nodesS_take_le (ts : List Ty) (k : Nat) : nodesS (ts.take k) ≤ nodesS ts := by
  have h := nodesS_append (ts.take k) (ts.drop k)
  rw [List.take_append_drop] at h
  omega
theorem nodesS_ge (ts : List Ty) : ts.length ≤ nodesS ts := by
  induction ts with
  | nil => simp
  | cons a ts ih => simp only [List.length_cons, nodesS, Ty.nodes_eq]; omega
theorem nodesS_at (ts : List Ty) (k : Nat) (h : k < ts.length) : 1 + nodesS ts[k].args ≤ nodesS ts := by
  have h1 := nodesS_take ts k h
  have h2 := nodesS_take_le ts (k + 1)
  omega

/-- The slice holds just these types; C: the blocks it may lie in. -/
inductive TS (w : World) (C : Nat → Prop) : List Ty → Value → Prop
  | nil (a : Option Addr) (c : Nat) : TS w C [] (.slice a 0 c)
  | cons {ts : List Ty} {b o c : Nat} (S : Nat → Value) (h1 : 1 ≤ ts.length) (hc : ts.length ≤ c) (hm : c ≤ 9223372036854775807) (hC : C b) (hb : b < w.heap.size)
      (hk : ∀ j x, ts[j]? = some x → w.cell? ⟨b, o + j * 2, none⟩ = some (.int .i64 x.kind))
      (hs : ∀ j x, ts[j]? = some x → w.cell? ⟨b, o + j * 2 + 1, none⟩ = some (S j))
      (hr : ∀ j x, ts[j]? = some x → TS w C x.args (S j)) : TS w C ts (.slice (some ⟨b, o, none⟩) ts.length c)

/-- What stays ts it was in the blocks of C. -/
def Stays (C : Nat → Prop) (w w' : World) : Prop := w.heap.size ≤ w'.heap.size ∧ ∀ b, C b → b < w.heap.size → w'.heap[b]? = w.heap[b]?
theorem Stays.of_below {C : Nat → Prop} {w w' : World} (h : Below w.heap.size w w') : Stays C w w' := ⟨h.size, fun b _ hb => h.block b hb⟩
theorem Stays.refl (C : Nat → Prop) (w : World) : Stays C w w := ⟨Nat.le_refl _, fun _ _ _ => rfl⟩
theorem Stays.mono {C C' : Nat → Prop} {w w' : World} (h : Stays C w w') (hc : ∀ z, C' z → C z) : Stays C' w w' := ⟨h.1, fun b hb hl => h.2 b (hc b hb) hl⟩
theorem Stays.trans {C : Nat → Prop} {a b c : World} (h : Stays C a b) (k : Stays C b c) : Stays C a c :=
  ⟨Nat.le_trans h.1 k.1, fun i hi hl => (k.2 i hi (Nat.lt_of_lt_of_le hl h.1)).trans (h.2 i hi hl)⟩

theorem TS.stays {w w' : World} {C : Nat → Prop} {ts : List Ty} {v : Value} (h : TS w C ts v) (hs : Stays C w w') : TS w' C ts v := by
  induction h with
  | nil a c => exact .nil a c
  | cons S h1 hc hm hC hb hk hS hr ih =>
    refine .cons S h1 hc hm hC (Nat.lt_of_lt_of_le hb hs.1) (fun j x hj => ?_) (fun j x hj => ?_) ih
    · rw [World.cell?_of_block (w := _) (hs.2 _ hC hb)]; exact hk j x hj
    · rw [World.cell?_of_block (w := _) (hs.2 _ hC hb)]; exact hS j x hj
theorem TS.keep {w w' : World} {C : Nat → Prop} {ts : List Ty} {v : Value} (h : TS w C ts v) (hb : Below w.heap.size w w') : TS w' C ts v := h.stays (.of_below hb)
theorem TS.mono {w : World} {C C' : Nat → Prop} {ts : List Ty} {v : Value} (h : TS w C ts v) (hC' : ∀ b, C b → b < w.heap.size → C' b) : TS w C' ts v := by
  induction h with
  | nil a c => exact .nil a c
  | cons S h1 hc hm hC hb hk hS hr ih => exact .cons S h1 hc hm (hC' _ hC hb) hb hk hS ih

/-- A struct value that is the type t. -/
def TT (w : World) (C : Nat → Prop) (t : Ty) (v : Value) : Prop := ∃ s, v = .agg #[.int .i64 t.kind, s] ∧ TS w C t.args s
theorem TT.keep {w w' : World} {C : Nat → Prop} {t : Ty} {v : Value} (h : TT w C t v) (hb : Below w.heap.size w w') : TT w' C t v := by
  obtain ⟨s, hv, h⟩ := h
  exact ⟨s, hv, h.keep hb⟩
theorem TS.form {w : World} {C : Nat → Prop} {ts : List Ty} {v : Value} (h : TS w C ts v) : ∃ a c, v = .slice a ts.length c := by
  cases h with
  | nil a c => exact ⟨a, c, rfl⟩
  | cons => exact ⟨_, _, rfl⟩
theorem TS.len {w : World} {C : Nat → Prop} {ts : List Ty} {v : Value} (h : TS w C ts v) : ts.length ≤ 9223372036854775807 := by
  cases h with
  | nil => simp
  | cons S h1 hc hm => omega
end Go.Proofs.Yteoeefmdfalnjaa
/- TySz: The contract of the laws' szTypeS and szType: what is left of a bound behind a type, or -1. -/
namespace Go.Proofs.Yteoeefmdfalnjaa
open Go Go.RowKit

/-- How the count ends. -/
def SzEnds (left : Int) (n : Nat) (r : Int) : Prop := (0 ≤ r ∧ r + n = left) ∨ (r = -1 ∧ left < n)
theorem SzEnds.range {left : Int} {n : Nat} {r : Int} (h : SzEnds left n r) (hl : 0 ≤ left) : -1 ≤ r ∧ r ≤ left := by
  unfold SzEnds at h
  omega
def IntRet (P : Int → Prop) (w : World) (e : Ending) (w' : World) : Prop := ∃ n : Int, P n ∧ e = .returned (.int .i64 n) ∧ Below w.heap.size w w'

set_option maxRecDepth 100000 in
set_option maxHeartbeats 1000000 in
theorem szT_of (k : Int) (p : Option Addr) (l c : Nat) (n : Nat) (left : Int) (w : World) (h0 : 0 ≤ left)
    (h : ∀ w', Below w.heap.size w w' → Calls Try.prog 45 #[.slice p l c, .int .i64 left] w' (IntRet (SzEnds left n) w')) :
    Calls Try.prog 30 #[.agg #[.int .i64 k, .slice p l c], .int .i64 left] w (IntRet (SzEnds left n) w) := by
  have HH := Lib.hid h
  have HB := Lib.hid ((Below.refl w.heap.size w).alloc (Nat.le_refl _) (Obj.cells #[.int .i64 k, .slice p l c] 35))
  clear h
  go_enter Try.func30, Try.ntmps30
  go_wp2_with fail
  refine (HH.out _ HB.out).mono ?_
  rintro e w1 ⟨r, hr, rfl, hb1⟩
  have hrg := hr.range h0
  have HR := Lib.hid hr
  have HB1 := Lib.hid (HB.out.trans (hb1.mono HB.out.size))
  clear hr hb1
  by_cases hneg : r < 0
  · go_wp2_with fail
    go_ret
    exact ⟨_, by have := HR.out; unfold SzEnds at *; omega, rfl, HB1.out⟩
  · go_wp2_with fail
    go_ret
    exact ⟨_, HR.out, rfl, HB1.out⟩

/-- k types have been counted: L is left. -/
def LeftAt (left : Int) (ts : List Ty) (k : Nat) (L : Int) : Prop := L + ts.length + (nodesS (ts.take k) - k : Nat) = left

theorem nodesS_take_ge (ts : List Ty) (k : Nat) (h : k ≤ ts.length) : k ≤ nodesS (ts.take k) := by
  have := nodesS_ge (ts.take k)
  rw [List.length_take] at this
  omega
theorem leftAt_next {left : Int} {ts : List Ty} {k : Nat} {L r : Int} (h : LeftAt left ts k L) (hk : k < ts.length) (hr : SzEnds L (nodesS ts[k].args) r) (h0 : 0 ≤ r) : LeftAt left ts (k + 1) r := by
  have h1 := nodesS_take ts k hk
  have h2 := nodesS_take_ge ts k (Nat.le_of_lt hk)
  unfold LeftAt SzEnds at *
  omega
theorem leftAt_over {left : Int} {ts : List Ty} {k : Nat} {L r : Int} (h : LeftAt left ts k L) (hk : k < ts.length) (hr : SzEnds L (nodesS ts[k].args) r) (h0 : r < 0) : SzEnds left (nodesS ts) (-1) := by
  have h1 := nodesS_take ts k hk
  have h2 := nodesS_take_ge ts k (Nat.le_of_lt hk)
  have h3 := nodesS_append (ts.take (k + 1)) (ts.drop (k + 1))
  rw [List.take_append_drop] at h3
  have h4 := nodesS_ge (ts.drop (k + 1))
  rw [List.length_drop] at h4
  unfold LeftAt SzEnds at *
  omega
theorem leftAt_end {left : Int} {ts : List Ty} {L : Int} (h : LeftAt left ts ts.length L) (h0 : 0 ≤ L) : SzEnds left (nodesS ts) L := by
  have h2 := nodesS_ge ts
  unfold LeftAt at h
  rw [List.take_length] at h
  unfold SzEnds
  omega

set_option maxRecDepth 100000 in
set_option maxHeartbeats 1000000 in
theorem szS_any {w0 : World} {C : Nat → Prop} {ts : List Ty} {v : Value} (h : TS w0 C ts v) : ∀ (w : World) (left : Int), Stays C w0 w → 0 ≤ left → left ≤ 1048576 →
    Calls Try.prog 45 #[v, .int .i64 left] w (IntRet (SzEnds left (nodesS ts)) w) := by
  induction h with
  | nil a c =>
    intro w left hst h0 hl
    go_enter Try.func45, Try.ntmps45
    go_wp2_with fail
    go_loop [1, 5] (fun l i => l = .int .i64 left ∧ i = .int .i64 0) (fun _ _ => 0)
    case atStart => exact ⟨rfl, rfl⟩
    case round =>
      obtain ⟨rfl, rfl⟩ := hrel
      go_wp2_with fail
      go_ret
      exact ⟨_, Or.inl ⟨h0, by simp [nodesS]⟩, rfl, Below.refl _ _⟩
  | @cons ts b o c S h1 hc hm hC hb hk hs hr ih =>
    intro w left hst h0 hl
    have T := Lib.hid (TS.cons S h1 hc hm hC hb hk hs hr)
    have HIH := Lib.hid ih
    have HST := Lib.hid hst
    have HK := Lib.hid (fun j x (e : ts[j]? = some x) (w' : World) (hw : Stays C w0 w') => (World.cell?_of_block (w := w0) (a := ⟨b, o + j * 2, none⟩) (hw.2 b hC hb)).trans (hk j x e))
    have HS := Lib.hid (fun j x (e : ts[j]? = some x) (w' : World) (hw : Stays C w0 w') => (World.cell?_of_block (w := w0) (a := ⟨b, o + j * 2 + 1, none⟩) (hw.2 b hC hb)).trans (hs j x e))
    have HF := Lib.hid (fun j x (e : ts[j]? = some x) => (hr j x e).form)
    clear hk hs hr ih hst hC hb
    go_enter Try.func45, Try.ntmps45
    by_cases hbig : left - (ts.length : Int) < 0
    · go_wp2_with fail
      go_ret
      exact ⟨_, Or.inr ⟨rfl, by have := nodesS_ge ts; omega⟩, rfl, Below.refl _ _⟩
    · go_wp2_with fail
      go_loopw [1, 5] (fun l i wr => ∃ (k : Nat) (L : Int), k ≤ ts.length ∧ 0 ≤ L ∧ L ≤ left ∧ i = .int .i64 k ∧ l = .int .i64 L ∧ LeftAt left ts k L ∧ Below w.heap.size w wr) (fun _ i _ => ts.length - (intOf i).toNat)
      case atStart => exact ⟨0, _, Nat.zero_le _, by omega, by omega, rfl, rfl, by unfold LeftAt; simp [nodesS], Below.refl _ _⟩
      case round =>
        obtain ⟨k, L, hk, hL0, hL1, rfl, rfl, hat, hbr⟩ := hrel
        have HA := Lib.hid hat
        have HB := Lib.hid hbr
        have hst : Stays C w0 wr := HST.out.trans (.of_below hbr)
        have HSR := Lib.hid hst
        clear hat hbr hst
        by_cases hlk : k < ts.length
        · have e := List.getElem?_eq_getElem hlk
          have c1 := HK.out k _ e wr HSR.out
          have c2 := HS.out k _ e wr HSR.out
          obtain ⟨p, q, hf⟩ := HF.out k _ e
          rw [hf] at c2
          have HC := Lib.hid (szT_of ts[k].kind p _ q (nodesS ts[k].args) L wr hL0 (fun w' hw' => hf ▸ HIH.out k _ e w' L (HSR.out.trans (.of_below hw')) hL0 (by omega)))
          clear e
          go_wp2_with fail
          refine HC.out.mono ?_
          rintro e w1 ⟨r, hr, rfl, hb1⟩
          have hrg := hr.range hL0
          have HR := Lib.hid hr
          have HB1 := Lib.hid (HB.out.trans (hb1.mono HB.out.size))
          clear hr hb1
          by_cases hneg : r < 0
          · go_wp2_with fail
            go_ret
            exact ⟨_, leftAt_over HA.out hlk HR.out hneg, rfl, HB1.out⟩
          · go_wp2_with fail
            go_roundw
            case rel => exact ⟨k + 1, r, by omega, by omega, by omega, by go_num, rfl, leftAt_next HA.out hlk HR.out (by omega), HB1.out⟩
            case measure => simp [intOf]; omega
        · obtain rfl : k = ts.length := by omega
          go_wp2_with fail
          go_ret
          exact ⟨_, leftAt_end HA.out hL0, rfl, HB.out⟩
/-- THE LAWS' szType, AT EVERY TYPE. -/
theorem szT_any {C : Nat → Prop} {t : Ty} {v : Value} {w : World} (h : TT w C t v) (left : Int) (h0 : 0 ≤ left) (hl : left ≤ 1048576) :
    Calls Try.prog 30 #[v, .int .i64 left] w (IntRet (SzEnds left (nodesS t.args)) w) := by
  obtain ⟨s, rfl, h⟩ := h
  obtain ⟨p, c, rfl⟩ := h.form
  exact szT_of t.kind p _ c _ left w h0 (fun w' hb => szS_any h w' left (.of_below hb) h0 hl)
#print axioms szT_any
end Go.Proofs.Yteoeefmdfalnjaa
/- TyEq: The contract of the laws' eqTypeS and eqType: whether two types are the same. -/
namespace Go.Proofs.Yteoeefmdfalnjaa
open Go Go.RowKit

def BoolRet (P : Bool → Prop) (w : World) (e : Ending) (w' : World) : Prop := ∃ b : Bool, P b ∧ e = .returned (.bool b) ∧ Below w.heap.size w w'

theorem Ty.ext {a b : Ty} (h1 : a.kind = b.kind) (h2 : a.args = b.args) : a = b := by
  cases a; cases b; simp at h1 h2; rw [h1, h2]

set_option maxRecDepth 100000 in
set_option maxHeartbeats 1000000 in
theorem eqT_of (k k2 : Int) (p p2 : Option Addr) (l c l2 c2 : Nat) (Q : Prop) (w : World)
    (h : ∀ w', Below w.heap.size w w' → Calls Try.prog 49 #[.slice p l c, .slice p2 l2 c2] w' (BoolRet (fun b => b = true ↔ Q) w')) :
    Calls Try.prog 40 #[.agg #[.int .i64 k, .slice p l c], .agg #[.int .i64 k2, .slice p2 l2 c2]] w (BoolRet (fun b => b = true ↔ (k = k2 ∧ Q)) w) := by
  have HH := Lib.hid h
  have HB := Lib.hid (((Below.refl w.heap.size w).alloc (Nat.le_refl _) (Obj.cells #[.int .i64 k, .slice p l c] 41)).alloc (by simp) (Obj.cells #[.int .i64 k2, .slice p2 l2 c2] 41))
  clear h
  go_enter Try.func40, Try.ntmps40
  by_cases hk : k = k2
  · subst hk
    go_wp2_with fail
    refine (HH.out _ HB.out).mono ?_
    rintro e w1 ⟨r, hr, rfl, hb1⟩
    have HR := Lib.hid hr
    have HB1 := Lib.hid (HB.out.trans (hb1.mono HB.out.size))
    clear hr hb1
    cases r with
    | true =>
      go_wp2_with fail
      go_ret
      exact ⟨true, by simpa using HR.out, rfl, HB1.out⟩
    | false =>
      go_wp2_with fail
      go_ret
      exact ⟨false, by simpa using HR.out, rfl, HB1.out⟩
  · go_wp2_with fail
    go_ret
    exact ⟨false, by simp [hk], rfl, HB.out⟩

theorem keep4 {w W w1 : World} {p1 p2 p3 p4 : Addr} {v1 v2 v3 v4 : Value} (hb1 : Below W.heap.size W w1) (h : W.cell? p1 = some v1 ∧ W.cell? p2 = some v2 ∧ W.cell? p3 = some v3 ∧ W.cell? p4 = some v4 ∧ Below w.heap.size w W) :
    w1.cell? p1 = some v1 ∧ w1.cell? p2 = some v2 ∧ w1.cell? p3 = some v3 ∧ w1.cell? p4 = some v4 ∧ Below w.heap.size w w1 :=
  ⟨(hb1.cell (World.block_lt_of_cell? W _ h.1)).trans h.1, (hb1.cell (World.block_lt_of_cell? W _ h.2.1)).trans h.2.1, (hb1.cell (World.block_lt_of_cell? W _ h.2.2.1)).trans h.2.2.1, (hb1.cell (World.block_lt_of_cell? W _ h.2.2.2.1)).trans h.2.2.2.1, h.2.2.2.2.trans (hb1.mono h.2.2.2.2.size)⟩

theorem take_eq_next {ts us : List Ty} {k : Nat} (h : ts.take k = us.take k) (h1 : k < ts.length) (h2 : k < us.length) (he : ts[k].kind = us[k].kind ∧ ts[k].args = us[k].args) : ts.take (k + 1) = us.take (k + 1) := by
  rw [List.take_add_one, List.take_add_one, h, List.getElem?_eq_getElem h1, List.getElem?_eq_getElem h2, Ty.ext he.1 he.2]
theorem ne_of_at {ts us : List Ty} {k : Nat} (h1 : k < ts.length) (h2 : k < us.length) (hn : ¬ (ts[k].kind = us[k].kind ∧ ts[k].args = us[k].args)) : ts ≠ us := by
  intro e; subst e; exact hn ⟨rfl, rfl⟩

set_option maxRecDepth 100000 in
set_option maxHeartbeats 1000000 in
theorem eqS_any {w0 : World} {C C' : Nat → Prop} {ts : List Ty} {v : Value} (h : TS w0 C ts v) : ∀ (w : World) (us : List Ty) (u : Value), Stays C w0 w → TS w C' us u →
    Calls Try.prog 49 #[v, u] w (BoolRet (fun b => b = true ↔ ts = us) w) := by
  induction h with
  | nil a c =>
    intro w us u hst hu
    obtain ⟨p, d, rfl⟩ := hu.form
    have hlen := hu.len
    clear hu
    go_enter Try.func49, Try.ntmps49
    by_cases hz : us.length = 0
    · obtain rfl := List.eq_nil_of_length_eq_zero hz
      simp only [List.length_nil]
      go_wp2_with fail
      go_loop [5] (fun i => i = .int .i64 0) (fun _ => 0)
      case atStart => exact rfl
      case round =>
        obtain rfl := hrel
        go_wp2_with fail
        go_ret
        exact ⟨true, by simp, rfl, Below.refl _ _⟩
    · have hne : ¬ ([] = us) := fun e => hz (by rw [← e]; rfl)
      have HN := Lib.hid hne
      clear hne
      go_wp2_with fail
      go_ret
      exact ⟨false, by simpa using HN.out, rfl, Below.refl _ _⟩
  | @cons ts b o c S h1 hc hm hC hb hk hs hr ih =>
    intro w us u hst hu
    have HIH := Lib.hid ih
    have HST := Lib.hid hst
    have HK := Lib.hid (fun j x (e : ts[j]? = some x) (w' : World) (hw : Stays C w0 w') => (World.cell?_of_block (w := w0) (a := ⟨b, o + j * 2, none⟩) (hw.2 b hC hb)).trans (hk j x e))
    have HS := Lib.hid (fun j x (e : ts[j]? = some x) (w' : World) (hw : Stays C w0 w') => (World.cell?_of_block (w := w0) (a := ⟨b, o + j * 2 + 1, none⟩) (hw.2 b hC hb)).trans (hs j x e))
    have HF := Lib.hid (fun j x (e : ts[j]? = some x) => (hr j x e).form)
    clear hk hs hr ih hst hC hb
    by_cases hlen : ts.length = us.length
    · cases hu with
      | nil a d =>
        have h0 : ts.length = 0 := hlen
        omega
      | @cons us b2 o2 d S2 h12 hc2 hm2 hC2 hb2 hk2 hs2 hr2 =>
        have HT2 := Lib.hid (fun (w' : World) (hw : Below w.heap.size w w') => TS.keep (.cons S2 h12 hc2 hm2 hC2 hb2 hk2 hs2 hr2) hw)
        have HK2 := Lib.hid hk2
        have HS2 := Lib.hid hs2
        have HR2 := Lib.hid hr2
        clear hk2 hs2 hr2 hC2
        have HL := Lib.hid hlen
        go_enter Try.func49, Try.ntmps49
        rw [← hlen]
        clear hlen
        go_wp2_with fail
        go_loopw [5] (fun i wr => ∃ (k : Nat), k ≤ ts.length ∧ i = .int .i64 k ∧ ts.take k = us.take k ∧ Below w.heap.size w wr) (fun i _ => ts.length - (intOf i).toNat)
        case atStart => exact ⟨0, Nat.zero_le _, rfl, by simp, Below.refl _ _⟩
        case round =>
          obtain ⟨k, hk, rfl, htk, hbr⟩ := hrel
          have HTK := Lib.hid htk
          have HB := Lib.hid hbr
          have HSR := Lib.hid (HST.out.trans (Stays.of_below (C := C) hbr))
          clear htk
          by_cases hlk : k < ts.length
          · have hlk2 : k < us.length := by rw [← HL.out]; exact hlk
            have e := List.getElem?_eq_getElem hlk
            have e2 := List.getElem?_eq_getElem hlk2
            have c1 := HK.out k _ e wr HSR.out
            have c2 := HS.out k _ e wr HSR.out
            have c3 := (hbr.cell (p := ⟨b2, o2 + k * 2, none⟩) hb2).trans (HK2.out k _ e2)
            have c4 := (hbr.cell (p := ⟨b2, o2 + k * 2 + 1, none⟩) hb2).trans (HS2.out k _ e2)
            obtain ⟨p, q, hf⟩ := HF.out k _ e
            obtain ⟨p2, q2, hf2⟩ := (HR2.out k _ e2).form
            have HC := Lib.hid (fun (W : World) (hW : Below w.heap.size w W) => eqT_of ts[k].kind us[k].kind p p2 _ q _ q2 (ts[k].args = us[k].args) W (fun w' hw' => by
              have hw2 := hW.trans (hw'.mono hW.size)
              have hh := HIH.out k _ e w' _ _ (HST.out.trans (Stays.of_below hw2)) ((HR2.out k _ e2).keep hw2)
              rw [hf, hf2] at hh
              exact hh))
            rw [hf] at c2
            rw [hf2] at c4
            have i0 : (0 : Int) ≤ (k : Int) := Int.natCast_nonneg _
            have i1 : (k : Int) < (ts.length : Int) := by omega
            clear e e2 hf hf2
            go_wp2_with fail
            go_region_held3 (fun w' => w'.cell? ⟨b, o + k * 2, none⟩ = some (.int .i64 ts[k].kind) ∧ w'.cell? ⟨b, o + k * 2 + 1, none⟩ = some (.slice p ts[k].args.length q) ∧ w'.cell? ⟨b2, o2 + k * 2, none⟩ = some (.int .i64 us[k].kind) ∧ w'.cell? ⟨b2, o2 + k * 2 + 1, none⟩ = some (.slice p2 us[k].args.length q2) ∧ Below w.heap.size w w')
              (first
                | (go_keep; done)
                | exact ⟨by simp [*], by simp [*], by simp [*], by simp [*], hbr.drew⟩
                | exact keep4 hb1 (by assumption))
              (first | (go_at_call 40; refine (HC.out _ hbr.drew).mono ?_; rintro e w1 ⟨r, hr, rfl, hb1⟩))
            rename_i hH
            have HB1 := Lib.hid hH.2.2.2.2
            have HR := Lib.hid hr
            clear hH hb1 c1 c2 c3 c4 hr
            cases r with
            | true =>
              go_wp2_with fail
              go_roundw
              case rel => exact ⟨k + 1, by omega, by go_num, take_eq_next HTK.out hlk hlk2 (HR.out.1 rfl), HB1.out⟩
              case measure => simp [intOf]; omega
            | false =>
              go_wp2_with fail
              go_ret
              exact ⟨false, by simpa using ne_of_at hlk hlk2 (fun e => by simpa using HR.out.2 e), rfl, HB1.out⟩
          · obtain rfl : k = ts.length := by omega
            have htk : ts = us := by
              have := HTK.out
              rw [List.take_length, HL.out, List.take_length] at this
              exact this
            have HE := Lib.hid htk
            clear htk
            go_wp2_with fail
            go_ret
            exact ⟨true, by simpa using HE.out, rfl, HB.out⟩
    · have hne : ¬ (ts = us) := fun e => hlen (by rw [← e])
      obtain ⟨p, d, rfl⟩ := hu.form
      have hlen2 := hu.len
      have HN := Lib.hid hne
      clear hne hu
      go_enter Try.func49, Try.ntmps49
      go_wp2_with fail
      go_ret
      exact ⟨false, by simpa using HN.out, rfl, Below.refl _ _⟩
/-- THE LAWS' eqType, AT ANY TWO TYPES. -/
theorem eqT_any {C C' : Nat → Prop} {t u : Ty} {v x : Value} {w : World} (h : TT w C t v) (h2 : TT w C' u x) :
    Calls Try.prog 40 #[v, x] w (BoolRet (fun b => b = true ↔ t = u) w) := by
  obtain ⟨s, rfl, h⟩ := h
  obtain ⟨p, c, rfl⟩ := h.form
  obtain ⟨s2, rfl, h2⟩ := h2
  obtain ⟨p2, c2, rfl⟩ := h2.form
  refine (eqT_of t.kind u.kind p p2 _ c _ c2 (t.args = u.args) w (fun w' hb => eqS_any h w' _ _ (.of_below hb) (h2.keep hb))).mono ?_
  rintro e w' ⟨b, hb, he, hw⟩
  exact ⟨b, hb.trans ⟨fun h => Ty.ext h.1 h.2, fun h => by rw [h]; exact ⟨rfl, rfl⟩⟩, he, hw⟩
#print axioms eqT_any
end Go.Proofs.Yteoeefmdfalnjaa
/- OwnT: Types in memory that the call made itself: a row of types of its own, a tree of such rows whose blocks are apart. -/
namespace Go.Proofs.Yteoeefmdfalnjaa
open Go Go.RowKit

theorem infoTy : (Try.prog.info? 41).map (fun i => (i.zero, i.size, i.bytes)) = some (some (.agg #[.int .i64 0, .slice none 0 0]), 2, 32) := by kernel_rfl

/-- Block b is a row of c types of the call's own, of which the first n hold the kinds K and the slices S. -/
def Row (w : World) (b n c : Nat) (K : Nat → Int) (S : Nat → Value) : Prop :=
  ∃ cur : Array Value, w.heap[b]? = some (.cells cur 41 (0, 0)) ∧ cur.size = c * 2 ∧ n ≤ c ∧ ∀ j, j < n → cur[j * 2]? = some (.int .i64 (K j)) ∧ cur[j * 2 + 1]? = some (S j)

namespace Row
variable {w : World} {b n c : Nat} {K : Nat → Int} {S : Nat → Value}
theorem kind (h : Row w b n c K S) {j : Nat} (hj : j < n) : w.cell? ⟨b, j * 2, none⟩ = some (.int .i64 (K j)) := by
  obtain ⟨cur, hb, _, _, hc⟩ := h
  simp [World.cell?, hb, (hc j hj).1]
theorem args (h : Row w b n c K S) {j : Nat} (hj : j < n) : w.cell? ⟨b, j * 2 + 1, none⟩ = some (S j) := by
  obtain ⟨cur, hb, _, _, hc⟩ := h
  simp [World.cell?, hb, (hc j hj).2]
theorem frozen (h : Row w b n c K S) (i : Nat) : w.frozen? ⟨b, i, none⟩ = false := by
  obtain ⟨cur, hb, _, _, _⟩ := h
  simp [World.frozen?, hb]
theorem lt (h : Row w b n c K S) : b < w.heap.size := by
  obtain ⟨cur, hb, _, _, _⟩ := h
  exact (Array.getElem?_eq_some_iff.1 hb).1
theorem of_block {w' : World} (h : Row w b n c K S) (e : w'.heap[b]? = w.heap[b]?) : Row w' b n c K S := by
  obtain ⟨cur, hb, h1, h2, h3⟩ := h
  exact ⟨cur, e.trans hb, h1, h2, h3⟩
theorem below {w' : World} (h : Row w b n c K S) (hb : Below w.heap.size w w') : Row w' b n c K S := h.of_block (hb.block b h.lt)
theorem congr {K' : Nat → Int} {S' : Nat → Value} (h : Row w b n c K S) (e1 : ∀ j, j < n → K j = K' j) (e2 : ∀ j, j < n → S j = S' j) : Row w b n c K' S' := by
  obtain ⟨cur, hb, h1, h2, h3⟩ := h
  exact ⟨cur, hb, h1, h2, fun j hj => by rw [← e1 j hj, ← e2 j hj]; exact h3 j hj⟩
theorem setKind (h : Row w b n c K S) (k : Nat) (q : Int) : Row (w.setCell ⟨b, k * 2, none⟩ (.int .i64 q)) b n c (fun j => if j = k then q else K j) S := by
  obtain ⟨cur, hb, h1, h2, h3⟩ := h
  refine ⟨cur.setIfInBounds (k * 2) (.int .i64 q), ?_, by simpa using h1, h2, fun j hj => ?_⟩
  · simp [World.setCell, Array.getElem?_modify, hb]
  · rw [Array.getElem?_setIfInBounds, Array.getElem?_setIfInBounds]
    obtain ⟨e1, e2⟩ := h3 j hj
    constructor
    · by_cases e : j = k
      · subst e
        have : j * 2 < cur.size := by omega
        simp [this]
      · dsimp only; rw [if_neg (by omega), if_neg e]; exact e1
    · rw [if_neg (by omega)]; exact e2
theorem setArgs (h : Row w b n c K S) (k : Nat) (s : Value) : Row (w.setCell ⟨b, k * 2 + 1, none⟩ s) b n c K (fun j => if j = k then s else S j) := by
  obtain ⟨cur, hb, h1, h2, h3⟩ := h
  refine ⟨cur.setIfInBounds (k * 2 + 1) s, ?_, by simpa using h1, h2, fun j hj => ?_⟩
  · simp [World.setCell, Array.getElem?_modify, hb]
  · rw [Array.getElem?_setIfInBounds, Array.getElem?_setIfInBounds]
    obtain ⟨e1, e2⟩ := h3 j hj
    constructor
    · rw [if_neg (by omega)]; exact e1
    · by_cases e : j = k
      · subst e
        have : j * 2 + 1 < cur.size := by omega
        simp [this]
      · dsimp only; rw [if_neg (by omega), if_neg e]; exact e2
theorem of_owns {base g cap : Nat} {xs : List Value} (h : w.ownsRow base 41 2 (.slice (some ⟨g, 0, none⟩) n cap) n xs) (hx : ∀ j, j < n → xs[j * 2]? = some (.int .i64 (K j)) ∧ xs[j * 2 + 1]? = some (S j)) :
    Row w g n cap K S ∧ base ≤ g ∧ cap ≤ maxLen := by
  obtain ⟨_, h0 | ⟨g', cap', cur, hv, hg, hblk, h1, h2, h3, h4⟩⟩ := h
  · exact absurd h0.1 (by simp)
  · simp only [Value.slice.injEq, Option.some.injEq, Addr.mk.injEq, true_and, and_true] at hv
    obtain ⟨rfl, rfl⟩ := hv
    refine ⟨⟨cur, hblk, h3, h1, fun j hj => ?_⟩, hg, h2⟩
    obtain ⟨e1, e2⟩ := hx j hj
    rw [← h4, List.getElem?_take, if_pos (by omega), Array.getElem?_toList] at e1 e2
    exact ⟨e1, e2⟩
theorem to_owns (h : Row w b n c K S) (base : Nat) (hb : base ≤ b) (hc : c ≤ maxLen) :
    w.ownsRow base 41 2 (.slice (some ⟨b, 0, none⟩) n c) n ((List.range n).flatMap fun j => [.int .i64 (K j), S j]) := by
  obtain ⟨cur, hblk, h1, h2, h3⟩ := h
  have hl : ∀ m, ((List.range m).flatMap fun j => [Value.int .i64 (K j), S j]).length = m * 2 := by
    intro m
    induction m with
    | zero => rfl
    | succ m ih => rw [List.range_succ, List.flatMap_append, List.length_append, ih]; simp; omega
  refine ⟨hl n, Or.inr ⟨b, c, cur, rfl, hb, hblk, h2, hc, h1, ?_⟩⟩
  have key : ∀ m, m ≤ n → cur.toList.take (m * 2) = (List.range m).flatMap fun j => [Value.int .i64 (K j), S j] := by
    intro m
    induction m with
    | zero => intro _; simp
    | succ m ih =>
      intro hm
      obtain ⟨e1, e2⟩ := h3 m (by omega)
      rw [List.range_succ, List.flatMap_append, ← ih (by omega), show (m + 1) * 2 = m * 2 + 1 + 1 by omega, List.take_add_one, List.take_add_one, Array.getElem?_toList, Array.getElem?_toList, e1, e2]
      simp
  exact key n (Nat.le_refl _)
end Row

/-- A tree of rows of the call's own; F: the blocks, which are apart. -/
inductive OS (w : World) : List Ty → Value → (Nat → Prop) → Prop
  | none (F : Nat → Prop) : OS w [] (.slice none 0 0) F
  | row {ts : List Ty} {b c : Nat} {F : Nat → Prop} (K : Nat → Int) (S : Nat → Value) (G : Nat → Nat → Prop) (hrow : Row w b ts.length c K S) (hm : c ≤ maxLen) (hF : F b)
      (hk : ∀ j x, ts[j]? = some x → K j = x.kind) (hr : ∀ j x, ts[j]? = some x → OS w x.args (S j) (G j))
      (hG : ∀ j x, j < ts.length → G j x → F x ∧ x ≠ b) (hd : ∀ i j x, i < ts.length → j < ts.length → i ≠ j → G i x → G j x → False) : OS w ts (.slice (some ⟨b, 0, Option.none⟩) ts.length c) F

theorem OS.stays {w w' : World} {F : Nat → Prop} {ts : List Ty} {v : Value} (h : OS w ts v F) : Stays F w w' → OS w' ts v F := by
  induction h with
  | none F => intro _; exact .none F
  | row K S G hrow hm hF hk hr hG hd ih =>
    intro hs
    refine .row K S G (hrow.of_block (hs.2 _ hF hrow.lt)) hm hF hk (fun j x hj => ih j x hj ⟨hs.1, fun b hb hl => hs.2 b (hG j b (List.getElem?_eq_some_iff.1 hj).1 hb).1 hl⟩) hG hd
theorem OS.keep {w w' : World} {F : Nat → Prop} {ts : List Ty} {v : Value} (h : OS w ts v F) (hb : Below w.heap.size w w') : OS w' ts v F := h.stays (.of_below hb)
theorem OS.mono {w : World} {F F' : Nat → Prop} {ts : List Ty} {v : Value} (h : OS w ts v F) (hF' : ∀ b, F b → F' b) : OS w ts v F' := by
  cases h with
  | none F => exact .none F'
  | row K S G hrow hm hF hk hr hG hd => exact .row K S G hrow hm (hF' _ hF) hk hr (fun j x hj hx => ⟨hF' _ (hG j x hj hx).1, (hG j x hj hx).2⟩) hd
theorem OS.ts {w : World} {F : Nat → Prop} {ts : List Ty} {v : Value} (h : OS w ts v F) : TS w F ts v := by
  induction h with
  | none F => exact .nil _ _
  | @row ts b c F K S G hrow hm hF hk hr hG hd ih =>
    cases ts with
    | nil => exact .nil _ _
    | cons x r =>
      refine .cons S (by simp) hrow.choose_spec.2.2.1 (by unfold maxLen at hm; omega) hF hrow.lt (fun j y hj => ?_) (fun j y hj => ?_) (fun j y hj => ?_)
      · have hlt := (List.getElem?_eq_some_iff.1 hj).1
        rw [Nat.zero_add, hrow.kind hlt, hk j y hj]
      · have hlt := (List.getElem?_eq_some_iff.1 hj).1
        rw [Nat.zero_add, hrow.args hlt]
      · have hlt := (List.getElem?_eq_some_iff.1 hj).1
        exact (ih j y hj).mono (fun b hb _ => (hG j b hlt hb).1)
/-- A struct value that is a type whose rows are the call's own. -/
def OT (w : World) (t : Ty) (v : Value) (F : Nat → Prop) : Prop := ∃ s, v = .agg #[.int .i64 t.kind, s] ∧ OS w t.args s F
theorem OT.tt {w : World} {F : Nat → Prop} {t : Ty} {v : Value} (h : OT w t v F) : TT w F t v := by
  obtain ⟨s, hv, h⟩ := h
  exact ⟨s, hv, h.ts⟩
theorem OT.keep {w w' : World} {F : Nat → Prop} {t : Ty} {v : Value} (h : OT w t v F) (hb : Below w.heap.size w w') : OT w' t v F := by
  obtain ⟨s, hv, h⟩ := h
  exact ⟨s, hv, h.keep hb⟩
theorem OS.form {w : World} {F : Nat → Prop} {ts : List Ty} {v : Value} (h : OS w ts v F) : ∃ a c, v = .slice a ts.length c := h.ts.form

/-- A row that is being filled, place by place: k of ts are there. -/
def Fill (w : World) (b n c : Nat) (ts : List Ty) (k : Nat) : Prop :=
  ∃ (K : Nat → Int) (S : Nat → Value) (G : Nat → Nat → Prop), Row w b n c K S ∧ (∀ j x, j < k → ts[j]? = some x → K j = x.kind ∧ OS w x.args (S j) (G j)) ∧
    (∀ j x, j < k → G j x → b < x ∧ x < w.heap.size) ∧ (∀ i j x, i < k → j < k → i ≠ j → G i x → G j x → False)
theorem Fill.lt {w : World} {b n c k : Nat} {ts : List Ty} (h : Fill w b n c ts k) : b < w.heap.size := by
  obtain ⟨K, S, G, h, _⟩ := h
  exact h.lt
theorem Fill.start {w : World} {b n c : Nat} {K : Nat → Int} {S : Nat → Value} {ts : List Ty} (h : Row w b n c K S) : Fill w b n c ts 0 :=
  ⟨K, S, fun _ _ => False, h, fun j x hj => by omega, fun j x hj => by omega, fun i j x hi => by omega⟩
theorem setCell_stays (w : World) (b : Nat) (i : Nat) (v : Value) (F : Nat → Prop) (h : ¬ F b) : Stays F w (w.setCell ⟨b, i, none⟩ v) :=
  ⟨((Below.refl b w).setCell (p := ⟨b, i, none⟩) (Nat.le_refl _) v).size, fun k hk _ => Below.heap_setCell _ _ _ _ (fun e => h (by rw [← (show k = b from e)]; exact hk))⟩
/-- The k-th place is filled with a type that was made behind. -/
theorem Fill.next {w w1 : World} {b n c k : Nat} {ts : List Ty} (h : Fill w b n c ts k) (hb : Below w.heap.size w w1) {x : Ty} (hx : ts[k]? = some x) {s : Value}
    (ho : OS w1 x.args s (fun g => w.heap.size ≤ g ∧ g < w1.heap.size)) (hkn : k < n) :
    Fill ((w1.setCell ⟨b, k * 2, none⟩ (.int .i64 x.kind)).setCell ⟨b, k * 2 + 1, none⟩ s) b n c ts (k + 1) := by
  obtain ⟨K, S, G, hrow, ht, hg, hd⟩ := h
  have hlt := hrow.lt
  have e0 : ((w1.setCell ⟨b, k * 2, none⟩ (.int .i64 x.kind)).setCell ⟨b, k * 2 + 1, none⟩ s).heap.size = w1.heap.size := by
    simp [World.setCell]
  have stay : ∀ F : Nat → Prop, ¬ F b → Stays F w1 ((w1.setCell ⟨b, k * 2, none⟩ (.int .i64 x.kind)).setCell ⟨b, k * 2 + 1, none⟩ s) := fun F hF => (setCell_stays _ _ _ _ F hF).trans (setCell_stays _ _ _ _ F hF)
  refine ⟨fun j => if j = k then x.kind else K j, fun j => if j = k then s else S j, fun j => if j = k then (fun g => w.heap.size ≤ g ∧ g < w1.heap.size) else G j, ((hrow.below hb).setKind k _).setArgs k s, fun j y hj hy => ?_, fun j y hj hy => ?_, fun i j y hi hj hij h1 h2 => ?_⟩
  · by_cases e : j = k
    · subst e
      rw [hx] at hy; cases hy
      simp only [if_true, true_and]
      exact ho.stays (stay _ (by simp; omega))
    · simp only [if_neg e]
      obtain ⟨e1, e2⟩ := ht j y (by omega) hy
      exact ⟨e1, (e2.keep hb).stays (stay _ (fun hh => by have := hg j b (by omega) hh; omega))⟩
  · rw [e0]
    by_cases e : j = k
    · subst e
      simp only [if_true] at hy
      have := hb.size
      omega
    · simp only [if_neg e] at hy
      have := hg j y (by omega) hy
      have := hb.size
      omega
  · dsimp only at h1 h2
    by_cases ei : i = k
    · subst ei
      simp only [if_true] at h1
      rw [if_neg (by omega)] at h2
      have := hg j y (by omega) h2
      omega
    · rw [if_neg ei] at h1
      by_cases ej : j = k
      · subst ej
        simp only [if_true] at h2
        have := hg i y (by omega) h1
        omega
      · rw [if_neg ej] at h2
        exact hd i j y (by omega) (by omega) hij h1 h2
theorem Fill.frz {w w1 : World} {b n c k : Nat} {ts : List Ty} (h : Fill w b n c ts k) (hb : Below w.heap.size w w1) (i : Nat) : w1.frozen? ⟨b, i, none⟩ = false := by
  obtain ⟨K, S, G, hrow, _⟩ := h
  exact (hrow.below hb).frozen i
theorem Fill.next2 {w w1 : World} {b n c k : Nat} {ts : List Ty} (h : Fill w b n c ts k) (hb : Below w.heap.size w w1) {x : Ty} (hx : ts[k]? = some x) {s : Value}
    (ho : OS w1 x.args s (fun g => w.heap.size ≤ g ∧ g < w1.heap.size)) (hkn : k < n) :
    ((∃ q, w1.cell? ⟨b, k * 2, none⟩ = some (.int .i64 q)) ∧ (∃ q, w1.cell? ⟨b, k * 2 + 1, none⟩ = some q)) ∧
    Fill ((w1.setCell ⟨b, k * 2, none⟩ (.int .i64 x.kind)).setCell ⟨b, k * 2 + 1, none⟩ s) b n c ts (k + 1) := by
  refine ⟨?_, h.next hb hx ho hkn⟩
  obtain ⟨K, S, G, hrow, _⟩ := h
  exact ⟨⟨_, (hrow.below hb).kind hkn⟩, ⟨_, (hrow.below hb).args hkn⟩⟩
theorem Fill.full {w : World} {b c : Nat} {ts : List Ty} (h : Fill w b ts.length c ts ts.length) (hm : c ≤ maxLen) : OS w ts (.slice (some ⟨b, 0, none⟩) ts.length c) (fun g => b ≤ g ∧ g < w.heap.size) := by
  obtain ⟨K, S, G, hrow, ht, hg, hd⟩ := h
  refine .row K S G hrow hm ⟨Nat.le_refl _, hrow.lt⟩ (fun j x hj => (ht j x (List.getElem?_eq_some_iff.1 hj).1 hj).1) (fun j x hj => (ht j x (List.getElem?_eq_some_iff.1 hj).1 hj).2) (fun j x hj hx => ?_) hd
  have := hg j x hj hx
  exact ⟨⟨by omega, by omega⟩, by omega⟩
end Go.Proofs.Yteoeefmdfalnjaa
