/-
  Several texts of the proof in one (each says below what it holds): Kit Ty OwnT TyCopy TySz TyEq TyInd SpecTy SpecTy2 SpecTy3.
-/
import Derived.WalkKit
import Derived.WalkSpells
import Derived.WalkLawsBesides
import Derived.Lib.Hide
import Derived.Laws.IdiomStrings
import Derived.OwnWalk
import Derived.Below
import Derived.Test.YtjobmgbchpoheaaGreatDoorProg
import Derived.WalkSmall
import Derived.Laws.OwnMore
import Derived.Deep.RegionHeld3
namespace Go.Proofs.YtjobmgbchpoheaaGreatDoor
open Go Go.RowKit
theorem run_string_byte {P : Program} (w : World) (src dst e : TypeId) (n : Int) (h0 : 0 ≤ n) (h1 : n ≤ 255)
    (hs : P.underlying src = some (.slice e)) (he : P.underlying e = some (.int .u8)) (hd : P.underlying dst = some .string) :
    (convert src dst (.slice (some ⟨w.heap.size, 0, none⟩) 1 1)).run P (w.alloc (.cells #[.int .u8 n] e)) = .ok (.string ⟨#[UInt8.ofNat n.toNat]⟩) (w.alloc (.cells #[.int .u8 n] e)) := by
  have h := run_convert_bytes_back (P := P) (w.alloc (.cells #[.int .u8 n] e)) src dst e ⟨w.heap.size, 0, none⟩ 1 [UInt8.ofNat n.toNat] hs he hd (fun j hj => by
    have hj0 : j = 0 := by simpa using hj
    subst hj0
    have : (UInt8.ofNat n.toNat).toNat = n.toNat := by simp; omega
    show (w.alloc (.cells #[.int .u8 n] e)).cell? ⟨w.heap.size, 0, none⟩ = _
    rw [World.cell?_alloc_mark]
    simp only [List.getElem_cons_zero, this]
    rw [Int.toNat_of_nonneg h0]
    rfl)
  exact h

theorem str_cons (b : UInt8) (l : List UInt8) : (⟨#[b]⟩ : ByteArray) ++ ⟨l.toArray⟩ = ⟨(b :: l).toArray⟩ := by
  apply ByteArray.ext
  simp
end Go.Proofs.YtjobmgbchpoheaaGreatDoor
namespace Go.Proofs.YtjobmgbchpoheaaGreatDoor
open Go Go.RowKit

inductive Ty where
  | mk (kind : Int) (args : List Ty)
def Ty.kind : Ty → Int | .mk k _ => k
def Ty.args : Ty → List Ty | .mk _ ts => ts
@[simp] theorem Ty.kind_mk (k : Int) (ts : List Ty) : (Ty.mk k ts).kind = k := rfl
@[simp] theorem Ty.args_mk (k : Int) (ts : List Ty) : (Ty.mk k ts).args = ts := rfl

mutual
def Ty.nodes : Ty → Nat
  | .mk _ ts => 1 + nodesS ts
def nodesS : List Ty → Nat
  | [] => 0
  | a :: ts => a.nodes + nodesS ts
end
theorem Ty.nodes_eq (t : Ty) : t.nodes = 1 + nodesS t.args := by cases t; simp [Ty.nodes]
theorem nodesS_append (a b : List Ty) : nodesS (a ++ b) = nodesS a + nodesS b := by
  induction a with
  | nil => simp [nodesS]
  | cons x a ih => simp only [List.cons_append, nodesS, ih]; omega
theorem nodesS_take (ts : List Ty) (k : Nat) (h : k < ts.length) : nodesS (ts.take (k + 1)) = nodesS (ts.take k) + (1 + nodesS ts[k].args) := by
  rw [List.take_add_one, List.getElem?_eq_getElem h, nodesS_append]
  simp [nodesS, Ty.nodes_eq]
theorem nodesS_take_le (ts : List Ty) (k : Nat) : nodesS (ts.take k) ≤ nodesS ts := by
  have h := nodesS_append (ts.take k) (ts.drop k)
  rw [List.take_append_drop] at h
  omega
theorem nodesS_ge (ts : List Ty) : ts.length ≤ nodesS ts := by
  induction ts with
  | nil => simp
  | cons a ts ih => simp only [List.length_cons, nodesS, Ty.nodes_eq]; omega
theorem nodesS_at (ts : List Ty) (k : Nat) (h : k < ts.length) : 1 + nodesS ts[k].args ≤ nodesS ts := by
  have h1 := nodesS_take ts k h
  have h2 := nodesS_take_le ts (k + 1)
  omega
inductive TS (w : World) (C : Nat → Prop) : List Ty → Value → Prop
  | nil (a : Option Addr) (c : Nat) : TS w C [] (.slice a 0 c)
  | cons {ts : List Ty} {b o c : Nat} (S : Nat → Value) (h1 : 1 ≤ ts.length) (hc : ts.length ≤ c) (hm : c ≤ 9223372036854775807) (hC : C b) (hb : b < w.heap.size)
      (hk : ∀ j x, ts[j]? = some x → w.cell? ⟨b, o + j * 2, none⟩ = some (.int .i64 x.kind))
      (hs : ∀ j x, ts[j]? = some x → w.cell? ⟨b, o + j * 2 + 1, none⟩ = some (S j))
      (hr : ∀ j x, ts[j]? = some x → TS w C x.args (S j)) : TS w C ts (.slice (some ⟨b, o, none⟩) ts.length c)
def Stays (C : Nat → Prop) (w w' : World) : Prop := w.heap.size ≤ w'.heap.size ∧ ∀ b, C b → b < w.heap.size → w'.heap[b]? = w.heap[b]?
theorem Stays.of_below {C : Nat → Prop} {w w' : World} (h : Below w.heap.size w w') : Stays C w w' := ⟨h.size, fun b _ hb => h.block b hb⟩
theorem Stays.refl (C : Nat → Prop) (w : World) : Stays C w w := ⟨Nat.le_refl _, fun _ _ _ => rfl⟩
theorem Stays.mono {C C' : Nat → Prop} {w w' : World} (h : Stays C w w') (hc : ∀ z, C' z → C z) : Stays C' w w' := ⟨h.1, fun b hb hl => h.2 b (hc b hb) hl⟩
theorem Stays.trans {C : Nat → Prop} {a b c : World} (h : Stays C a b) (k : Stays C b c) : Stays C a c :=
  ⟨Nat.le_trans h.1 k.1, fun i hi hl => (k.2 i hi (Nat.lt_of_lt_of_le hl h.1)).trans (h.2 i hi hl)⟩

theorem TS.stays {w w' : World} {C : Nat → Prop} {ts : List Ty} {v : Value} (h : TS w C ts v) (hs : Stays C w w') : TS w' C ts v := by
  induction h with
  | nil a c => exact .nil a c
  | cons S h1 hc hm hC hb hk hS hr ih =>
    refine .cons S h1 hc hm hC (Nat.lt_of_lt_of_le hb hs.1) (fun j x hj => ?_) (fun j x hj => ?_) ih
    · rw [World.cell?_of_block (w := _) (hs.2 _ hC hb)]; exact hk j x hj
    · rw [World.cell?_of_block (w := _) (hs.2 _ hC hb)]; exact hS j x hj
theorem TS.keep {w w' : World} {C : Nat → Prop} {ts : List Ty} {v : Value} (h : TS w C ts v) (hb : Below w.heap.size w w') : TS w' C ts v := h.stays (.of_below hb)
theorem TS.mono {w : World} {C C' : Nat → Prop} {ts : List Ty} {v : Value} (h : TS w C ts v) (hC' : ∀ b, C b → b < w.heap.size → C' b) : TS w C' ts v := by
  induction h with
  | nil a c => exact .nil a c
  | cons S h1 hc hm hC hb hk hS hr ih => exact .cons S h1 hc hm (hC' _ hC hb) hb hk hS ih
def TT (w : World) (C : Nat → Prop) (t : Ty) (v : Value) : Prop := ∃ s, v = .agg #[.int .i64 t.kind, s] ∧ TS w C t.args s
theorem TT.keep {w w' : World} {C : Nat → Prop} {t : Ty} {v : Value} (h : TT w C t v) (hb : Below w.heap.size w w') : TT w' C t v := by
  obtain ⟨s, hv, h⟩ := h
  exact ⟨s, hv, h.keep hb⟩
theorem TS.form {w : World} {C : Nat → Prop} {ts : List Ty} {v : Value} (h : TS w C ts v) : ∃ a c, v = .slice a ts.length c := by
  cases h with
  | nil a c => exact ⟨a, c, rfl⟩
  | cons => exact ⟨_, _, rfl⟩
theorem TS.len {w : World} {C : Nat → Prop} {ts : List Ty} {v : Value} (h : TS w C ts v) : ts.length ≤ 9223372036854775807 := by
  cases h with
  | nil => simp
  | cons S h1 hc hm => omega
end Go.Proofs.YtjobmgbchpoheaaGreatDoor
namespace Go.Proofs.YtjobmgbchpoheaaGreatDoor
open Go Go.RowKit

theorem infoTy : (Tryz.prog.info? 26).map (fun i => (i.zero, i.size, i.bytes)) = some (some (.agg #[.int .i64 0, .slice none 0 0]), 2, 32) := by kernel_rfl
def Row (w : World) (b n c : Nat) (K : Nat → Int) (S : Nat → Value) : Prop :=
  ∃ cur : Array Value, w.heap[b]? = some (.cells cur 26 (0, 0)) ∧ cur.size = c * 2 ∧ n ≤ c ∧ ∀ j, j < n → cur[j * 2]? = some (.int .i64 (K j)) ∧ cur[j * 2 + 1]? = some (S j)

namespace Row
variable {w : World} {b n c : Nat} {K : Nat → Int} {S : Nat → Value}
theorem kind (h : Row w b n c K S) {j : Nat} (hj : j < n) : w.cell? ⟨b, j * 2, none⟩ = some (.int .i64 (K j)) := by
  obtain ⟨cur, hb, _, _, hc⟩ := h
  simp [World.cell?, hb, (hc j hj).1]
theorem args (h : Row w b n c K S) {j : Nat} (hj : j < n) : w.cell? ⟨b, j * 2 + 1, none⟩ = some (S j) := by
  obtain ⟨cur, hb, _, _, hc⟩ := h
  simp [World.cell?, hb, (hc j hj).2]
theorem lt (h : Row w b n c K S) : b < w.heap.size := by
  obtain ⟨cur, hb, _, _, _⟩ := h
  exact (Array.getElem?_eq_some_iff.1 hb).1
theorem of_block {w' : World} (h : Row w b n c K S) (e : w'.heap[b]? = w.heap[b]?) : Row w' b n c K S := by
  obtain ⟨cur, hb, h1, h2, h3⟩ := h
  exact ⟨cur, e.trans hb, h1, h2, h3⟩
theorem of_owns {base g cap : Nat} {xs : List Value} (h : w.ownsRow base 26 2 (.slice (some ⟨g, 0, none⟩) n cap) n xs) (hx : ∀ j, j < n → xs[j * 2]? = some (.int .i64 (K j)) ∧ xs[j * 2 + 1]? = some (S j)) :
    Row w g n cap K S ∧ base ≤ g ∧ cap ≤ maxLen := by
  obtain ⟨_, h0 | ⟨g', cap', cur, hv, hg, hblk, h1, h2, h3, h4⟩⟩ := h
  · exact absurd h0.1 (by simp)
  · simp only [Value.slice.injEq, Option.some.injEq, Addr.mk.injEq, true_and, and_true] at hv
    obtain ⟨rfl, rfl⟩ := hv
    refine ⟨⟨cur, hblk, h3, h1, fun j hj => ?_⟩, hg, h2⟩
    obtain ⟨e1, e2⟩ := hx j hj
    rw [← h4, List.getElem?_take, if_pos (by omega), Array.getElem?_toList] at e1 e2
    exact ⟨e1, e2⟩
theorem to_owns (h : Row w b n c K S) (base : Nat) (hb : base ≤ b) (hc : c ≤ maxLen) :
    w.ownsRow base 26 2 (.slice (some ⟨b, 0, none⟩) n c) n ((List.range n).flatMap fun j => [.int .i64 (K j), S j]) := by
  obtain ⟨cur, hblk, h1, h2, h3⟩ := h
  have hl : ∀ m, ((List.range m).flatMap fun j => [Value.int .i64 (K j), S j]).length = m * 2 := by
    intro m
    induction m with
    | zero => rfl
    | succ m ih => rw [List.range_succ, List.flatMap_append, List.length_append, ih]; simp; omega
  refine ⟨hl n, Or.inr ⟨b, c, cur, rfl, hb, hblk, h2, hc, h1, ?_⟩⟩
  have key : ∀ m, m ≤ n → cur.toList.take (m * 2) = (List.range m).flatMap fun j => [Value.int .i64 (K j), S j] := by
    intro m
    induction m with
    | zero => intro _; simp
    | succ m ih =>
      intro hm
      obtain ⟨e1, e2⟩ := h3 m (by omega)
      rw [List.range_succ, List.flatMap_append, ← ih (by omega), show (m + 1) * 2 = m * 2 + 1 + 1 by omega, List.take_add_one, List.take_add_one, Array.getElem?_toList, Array.getElem?_toList, e1, e2]
      simp
  exact key n (Nat.le_refl _)
end Row
inductive OS (w : World) : List Ty → Value → (Nat → Prop) → Prop
  | none (F : Nat → Prop) : OS w [] (.slice none 0 0) F
  | row {ts : List Ty} {b c : Nat} {F : Nat → Prop} (K : Nat → Int) (S : Nat → Value) (G : Nat → Nat → Prop) (hrow : Row w b ts.length c K S) (hm : c ≤ maxLen) (hF : F b)
      (hk : ∀ j x, ts[j]? = some x → K j = x.kind) (hr : ∀ j x, ts[j]? = some x → OS w x.args (S j) (G j))
      (hG : ∀ j x, j < ts.length → G j x → F x ∧ x ≠ b) (hd : ∀ i j x, i < ts.length → j < ts.length → i ≠ j → G i x → G j x → False) : OS w ts (.slice (some ⟨b, 0, Option.none⟩) ts.length c) F

theorem OS.stays {w w' : World} {F : Nat → Prop} {ts : List Ty} {v : Value} (h : OS w ts v F) : Stays F w w' → OS w' ts v F := by
  induction h with
  | none F => intro _; exact .none F
  | row K S G hrow hm hF hk hr hG hd ih =>
    intro hs
    refine .row K S G (hrow.of_block (hs.2 _ hF hrow.lt)) hm hF hk (fun j x hj => ih j x hj ⟨hs.1, fun b hb hl => hs.2 b (hG j b (List.getElem?_eq_some_iff.1 hj).1 hb).1 hl⟩) hG hd
theorem OS.keep {w w' : World} {F : Nat → Prop} {ts : List Ty} {v : Value} (h : OS w ts v F) (hb : Below w.heap.size w w') : OS w' ts v F := h.stays (.of_below hb)
theorem OS.mono {w : World} {F F' : Nat → Prop} {ts : List Ty} {v : Value} (h : OS w ts v F) (hF' : ∀ b, F b → F' b) : OS w ts v F' := by
  cases h with
  | none F => exact .none F'
  | row K S G hrow hm hF hk hr hG hd => exact .row K S G hrow hm (hF' _ hF) hk hr (fun j x hj hx => ⟨hF' _ (hG j x hj hx).1, (hG j x hj hx).2⟩) hd
theorem OS.ts {w : World} {F : Nat → Prop} {ts : List Ty} {v : Value} (h : OS w ts v F) : TS w F ts v := by
  induction h with
  | none F => exact .nil _ _
  | @row ts b c F K S G hrow hm hF hk hr hG hd ih =>
    cases ts with
    | nil => exact .nil _ _
    | cons x r =>
      refine .cons S (by simp) hrow.choose_spec.2.2.1 (by unfold maxLen at hm; omega) hF hrow.lt (fun j y hj => ?_) (fun j y hj => ?_) (fun j y hj => ?_)
      · have hlt := (List.getElem?_eq_some_iff.1 hj).1
        rw [Nat.zero_add, hrow.kind hlt, hk j y hj]
      · have hlt := (List.getElem?_eq_some_iff.1 hj).1
        rw [Nat.zero_add, hrow.args hlt]
      · have hlt := (List.getElem?_eq_some_iff.1 hj).1
        exact (ih j y hj).mono (fun b hb _ => (hG j b hlt hb).1)
def OT (w : World) (t : Ty) (v : Value) (F : Nat → Prop) : Prop := ∃ s, v = .agg #[.int .i64 t.kind, s] ∧ OS w t.args s F
theorem OS.form {w : World} {F : Nat → Prop} {ts : List Ty} {v : Value} (h : OS w ts v F) : ∃ a c, v = .slice a ts.length c := h.ts.form
def Fill (w : World) (b n c : Nat) (ts : List Ty) (k : Nat) : Prop :=
  ∃ (K : Nat → Int) (S : Nat → Value) (G : Nat → Nat → Prop), Row w b n c K S ∧ (∀ j x, j < k → ts[j]? = some x → K j = x.kind ∧ OS w x.args (S j) (G j)) ∧
    (∀ j x, j < k → G j x → b < x ∧ x < w.heap.size) ∧ (∀ i j x, i < k → j < k → i ≠ j → G i x → G j x → False)
theorem setCell_stays (w : World) (b : Nat) (i : Nat) (v : Value) (F : Nat → Prop) (h : ¬ F b) : Stays F w (w.setCell ⟨b, i, none⟩ v) :=
  ⟨((Below.refl b w).setCell (p := ⟨b, i, none⟩) (Nat.le_refl _) v).size, fun k hk _ => Below.heap_setCell _ _ _ _ (fun e => h (by rw [← (show k = b from e)]; exact hk))⟩
end Go.Proofs.YtjobmgbchpoheaaGreatDoor
namespace Go.Proofs.YtjobmgbchpoheaaGreatDoor
open Go Go.RowKit
def NewT (t : Ty) (w : World) (e : Ending) (w' : World) : Prop := ∃ v, e = .returned v ∧ OT w' t v (fun g => w.heap.size ≤ g ∧ g < w'.heap.size) ∧ Below w.heap.size w w'
def NewTS (ts : List Ty) (w : World) (e : Ending) (w' : World) : Prop := ∃ v, e = .returned v ∧ OS w' ts v (fun g => w.heap.size ≤ g ∧ g < w'.heap.size) ∧ Below w.heap.size w w'

theorem blk_new (w : World) (o : Obj) : (w.alloc o).heap[w.heap.size]? = some o := by
  show (w.heap.push o)[w.heap.size]? = _
  simp
theorem results_cell1 {fn : Func} {p : Tmp} {ty : TypeId} (h : fn.results = #[.cell p ty]) (tmps : Array Value) (P : Program) (w : World) :
    (results fn tmps).run P w = ((asAddr (tmps.getD p undef)).run P w).andThen fun a w₁ => (loadVar ty a).run P w₁ := by
  simp only [results, h]
  simp [Sem.run_bind, Result.andThen]

theorem cell_of_blk {w : World} {g : Nat} {cs : Array Value} {t : TypeId} {fr : Nat × Nat} (h : w.heap[g]? = some (.cells cs t fr)) (i : Nat) : w.cell? ⟨g, i, none⟩ = cs[i]? := by simp [World.cell?, h]
theorem unfrozen_of_blk {w : World} {g : Nat} {cs : Array Value} {t : TypeId} (h : w.heap[g]? = some (.cells cs t (0, 0))) (i : Nat) : w.frozen? ⟨g, i, none⟩ = false := by simp [World.frozen?, h]

end Go.Proofs.YtjobmgbchpoheaaGreatDoor
namespace Go.Proofs.YtjobmgbchpoheaaGreatDoor
open Go Go.RowKit
def SzEnds (left : Int) (n : Nat) (r : Int) : Prop := (0 ≤ r ∧ r + n = left) ∨ (r = -1 ∧ left < n)
def IntRet (P : Int → Prop) (w : World) (e : Ending) (w' : World) : Prop := ∃ n : Int, P n ∧ e = .returned (.int .i64 n) ∧ Below w.heap.size w w'
def LeftAt (left : Int) (ts : List Ty) (k : Nat) (L : Int) : Prop := L + ts.length + (nodesS (ts.take k) - k : Nat) = left

end Go.Proofs.YtjobmgbchpoheaaGreatDoor
namespace Go.Proofs.YtjobmgbchpoheaaGreatDoor
open Go Go.RowKit

def BoolRet (P : Bool → Prop) (w : World) (e : Ending) (w' : World) : Prop := ∃ b : Bool, P b ∧ e = .returned (.bool b) ∧ Below w.heap.size w w'

theorem Ty.ext {a b : Ty} (h1 : a.kind = b.kind) (h2 : a.args = b.args) : a = b := by
  cases a; cases b; simp at h1 h2; rw [h1, h2]

end Go.Proofs.YtjobmgbchpoheaaGreatDoor
namespace Go.Proofs.YtjobmgbchpoheaaGreatDoor
open Go Go.RowKit
theorem TS.ind {w0 : World} {C : Nat → Prop} {motive : List Ty → Value → Prop}
    (step : ∀ (ts : List Ty) (p : Option Addr) (c : Nat), ts.length ≤ 9223372036854775807 →
      (∀ (j : Nat) (x : Ty), ts[j]? = some x → ∃ (b o : Nat) (p' : Option Addr) (c' : Nat), p = some ⟨b, o, none⟩ ∧
        (∀ w', Stays C w0 w' → w'.cell? ⟨b, o + j * 2, none⟩ = some (.int .i64 x.kind) ∧ w'.cell? ⟨b, o + j * 2 + 1, none⟩ = some (.slice p' x.args.length c')) ∧
        TS w0 C x.args (.slice p' x.args.length c') ∧ motive x.args (.slice p' x.args.length c')) → motive ts (.slice p ts.length c))
    {ts : List Ty} {v : Value} (h : TS w0 C ts v) : motive ts v := by
  induction h with
  | nil a c => exact step [] a c (by simp) (fun j x hj => by simp at hj)
  | @cons ts b o c S h1 hc hm hC hb hk hs hr ih =>
    refine step ts _ c (by omega) (fun j x hj => ?_)
    obtain ⟨p', c', hf⟩ := (hr j x hj).form
    refine ⟨b, o, p', c', rfl, fun w' hw => ⟨?_, ?_⟩, hf ▸ hr j x hj, hf ▸ ih j x hj⟩
    · exact (World.cell?_of_block (w := w0) (a := ⟨b, o + j * 2, none⟩) (hw.2 b hC hb)).trans (hk j x hj)
    · rw [← hf]; exact (World.cell?_of_block (w := w0) (a := ⟨b, o + j * 2 + 1, none⟩) (hw.2 b hC hb)).trans (hs j x hj)
theorem box_blk (w w' : World) (A : Array Value) (t : TypeId) (h : Below (w.alloc (.cells A t)).heap.size (w.alloc (.cells A t)) w') : w'.heap[w.heap.size]? = some (.cells A t (0, 0)) := by
  rw [h.block _ (by simp)]
  exact blk_new _ _
theorem box2 {w w' : World} {a b : Value} {t : TypeId} (h : Below (w.alloc (.cells #[a, b] t)).heap.size (w.alloc (.cells #[a, b] t)) w') : w'.cell? ⟨w.heap.size, 0, none⟩ = some a ∧ w'.cell? ⟨w.heap.size, 1, none⟩ = some b := by
  have hb := box_blk _ _ _ _ h
  exact ⟨cell_of_blk hb 0, cell_of_blk hb 1⟩
theorem below_box {w w' : World} {A : Array Value} {t : TypeId} (h : Below (w.alloc (.cells A t)).heap.size (w.alloc (.cells A t)) w') : Below w.heap.size w w' :=
  ((Below.refl w.heap.size w).alloc (Nat.le_refl _) _).trans (h.mono (by simp))

mutual
def Ty.depth : Ty → Nat
  | .mk _ ts => 1 + depthS ts
def depthS : List Ty → Nat
  | [] => 0
  | t :: ts => max t.depth (depthS ts)
end
mutual
def Ty.form : Ty → Bool
  | .mk k ts => formS ts && (if k = 1 ∨ k = 2 then ts.length == 0 else if k = 3 then ts.length == 2 else k == 4 && ts.length == 1)
def formS : List Ty → Bool
  | [] => true
  | t :: ts => t.form && formS ts
end
mutual
def Ty.has (q : Int) : Ty → Bool
  | .mk k ts => hasS q ts || k == q
def hasS (q : Int) : List Ty → Bool
  | [] => false
  | t :: ts => t.has q || hasS q ts
end
theorem depthS_append (a b : List Ty) : depthS (a ++ b) = max (depthS a) (depthS b) := by
  induction a with
  | nil => simp [depthS]
  | cons x a ih => simp only [List.cons_append, depthS, ih]; omega
theorem formS_append (a b : List Ty) : formS (a ++ b) = (formS a && formS b) := by
  induction a with
  | nil => simp [formS]
  | cons x a ih => simp [formS, ih, Bool.and_assoc]
theorem take_next {ts : List Ty} {k : Nat} (h : k < ts.length) : ts.take (k + 1) = ts.take k ++ [ts[k]] := by
  rw [List.take_add_one, List.getElem?_eq_getElem h]; rfl
theorem Ty.eta (t : Ty) : t = .mk t.kind t.args := by cases t; rfl
theorem depth_at (t : Ty) : t.depth = 1 + depthS t.args := by cases t; simp [Ty.depth]
theorem depth_le (ts : List Ty) (h : ∀ t ∈ ts, t.depth ≤ t.nodes) : depthS ts ≤ nodesS ts := by
  induction ts with
  | nil => simp [depthS]
  | cons t ts ih =>
    have h1 := h t (List.mem_cons_self ..)
    have h2 := ih (fun u hu => h u (List.mem_cons_of_mem _ hu))
    simp only [depthS, nodesS]
    omega
theorem Ty.depth_nodes : ∀ t : Ty, t.depth ≤ t.nodes
  | .mk k ts => by
    have := depth_le ts (fun t _ => Ty.depth_nodes t)
    simp only [Ty.depth, Ty.nodes]
    omega
theorem depthS_nodes (ts : List Ty) : depthS ts ≤ nodesS ts := depth_le ts (fun t _ => t.depth_nodes)
theorem nodesS_take_next (ts : List Ty) (k : Nat) (h : k < ts.length) : nodesS (ts.take (k + 1)) = nodesS (ts.take k) + ts[k].nodes := by
  rw [take_next h, nodesS_append]; simp [nodesS]
theorem depthS_take_next (ts : List Ty) (k : Nat) (h : k < ts.length) : depthS (ts.take (k + 1)) = max (depthS (ts.take k)) ts[k].depth := by
  rw [take_next h, depthS_append]; simp [depthS]
theorem depthS_at (ts : List Ty) (k : Nat) (h : k < ts.length) : depthS (ts.take k) ≤ 2097152 ∧ ts[k].depth ≤ 2097152 ∨ 2097152 < nodesS ts := by
  have h1 := depthS_nodes (ts.take k)
  have h2 := ts[k].depth_nodes
  have h3 := nodesS_take_next ts k h
  have h4 := nodesS_take_le ts (k + 1)
  omega
end Go.Proofs.YtjobmgbchpoheaaGreatDoor
namespace Go.Proofs.YtjobmgbchpoheaaGreatDoor
open Go Go.RowKit

end Go.Proofs.YtjobmgbchpoheaaGreatDoor
namespace Go.Proofs.YtjobmgbchpoheaaGreatDoor
open Go Go.RowKit


set_option maxRecDepth 100000 in
theorem max_any (a b : Int) (w : World) : Calls Tryz.prog 63 #[.int .i64 a, .int .i64 b] w fun e w' => e = .returned (.int .i64 (max a b)) ∧ w' = w := by
  go_enter Tryz.func63, Tryz.ntmps63
  by_cases h : b < a
  · go_wp2
    go_ret
    exact ⟨congrArg (fun z => Ending.returned (.int .i64 z)) (Int.max_eq_left (by omega)).symm, rfl⟩
  · go_wp2
    go_ret
    exact ⟨congrArg (fun z => Ending.returned (.int .i64 z)) (Int.max_eq_right (by omega)).symm, rfl⟩

theorem form_false {q : Int} {ts : List Ty} {k : Nat} (h : k < ts.length) (hf : ts[k].form = false) : (Ty.mk q ts).form = false := by
  have e : formS ts = false := by
    rw [← List.take_append_drop (k + 1) ts, formS_append, take_next h, formS_append]
    simp [formS, hf]
  simp [Ty.form, e]
theorem form_kind {q : Int} {ts : List Ty} {b : Bool} (h : formS ts = true) (hb : b = (if q = 1 ∨ q = 2 then ts.length == 0 else if q = 3 then ts.length == 2 else q == 4 && ts.length == 1)) : b = (Ty.mk q ts).form := by
  rw [Ty.form, h, hb, Bool.true_and]
theorem beq_0 (n : Nat) : ((n : Int) == 0) = (n == 0) := by rw [Bool.eq_iff_iff]; simp only [beq_iff_eq]; omega
theorem beq_1 (n : Nat) : ((n : Int) == 1) = (n == 1) := by rw [Bool.eq_iff_iff]; simp only [beq_iff_eq]; omega
theorem beq_2 (n : Nat) : ((n : Int) == 2) = (n == 2) := by rw [Bool.eq_iff_iff]; simp only [beq_iff_eq]; omega
def LeftEnds (left : Int) (n : Nat) (r : Int) : Prop := (0 ≤ r ∧ r + n = left) ∨ (r < 0 ∧ -1 ≤ r ∧ left < n) ∨ (r = -1 ∧ left = -1)
theorem LeftEnds.range {left : Int} {n : Nat} {r : Int} (h : LeftEnds left n r) (hl : -1 ≤ left) : -1 ≤ r ∧ r ≤ left := by
  unfold LeftEnds at h
  omega
theorem leftEnds_start {left : Int} (h : 0 ≤ left) : LeftEnds (left - 1) (nodesS ([] : List Ty)) (left - 1) := by
  unfold LeftEnds; simp only [nodesS]; omega
theorem LeftEnds.stop {left L : Int} {ts : List Ty} {k : Nat} (h : LeftEnds (left - 1) (nodesS (ts.take k)) L) (hn : L < 0) (_ : nodesS (ts.take (k + 1)) ≤ nodesS ts) : LeftEnds left (1 + nodesS ts) L := by
  have := nodesS_take_le ts k
  unfold LeftEnds at *; omega
theorem LeftEnds.next {left L r : Int} {n m : Nat} (h : LeftEnds (left - 1) n L) (hr : LeftEnds L m r) (h0 : 0 ≤ L) : LeftEnds (left - 1) (n + m) r := by
  unfold LeftEnds at *; omega
theorem LeftEnds.full {left L : Int} {n : Nat} (h : LeftEnds (left - 1) n L) : LeftEnds left (1 + n) L := by
  unfold LeftEnds at *; omega

set_option maxRecDepth 100000 in
set_option maxHeartbeats 1000000 in
theorem depth_any {w0 : World} {C : Nat → Prop} {ts : List Ty} {v : Value} (h : TS w0 C ts v) : ∀ (w : World) (q : Int), Stays C w0 w → nodesS ts ≤ 2097152 → Calls Tryz.prog 136 #[.agg #[.int .i64 q, v]] w (IntRet (fun r => r = ((1 + depthS ts : Nat) : Int)) w) := by
  refine TS.ind (motive := fun ts v => ∀ (w : World) (q : Int), Stays C w0 w → nodesS ts ≤ 2097152 → Calls Tryz.prog 136 #[.agg #[.int .i64 q, v]] w (IntRet (fun r => r = ((1 + depthS ts : Nat) : Int)) w)) ?_ h
  intro ts p c hl H w q hst hn
  have HH := Lib.hid H
  have HST := Lib.hid hst
  have hlen := nodesS_ge ts
  clear H hst
  go_enter Tryz.func136, Tryz.ntmps136
  go_wp2_with fail
  go_loopw [3, 4] (fun n i wr => ∃ (k : Nat), k ≤ ts.length ∧ i = .int .i64 k ∧ n = .int .i64 ((depthS (ts.take k) : Nat) : Int) ∧ Below (w.alloc (.cells #[.int .i64 q, .slice p ts.length c] 26)).heap.size (w.alloc (.cells #[.int .i64 q, .slice p ts.length c] 26)) wr) (fun _ i _ => ts.length - (intOf i).toNat)
  case atStart => exact ⟨0, Nat.zero_le _, rfl, by simp [depthS], Below.refl _ _⟩
  case round =>
    obtain ⟨k, hk, rfl, rfl, hbr⟩ := hrel
    have HB := Lib.hid hbr
    obtain ⟨d0, d1⟩ := box2 hbr
    clear hbr
    by_cases hlk : k < ts.length
    · obtain ⟨b, o, p', c', rfl, hcs, hT, hI⟩ := HH.out k _ (List.getElem?_eq_getElem hlk)
      have hsr := HST.out.trans (Stays.of_below (C := C) (below_box HB.out))
      obtain ⟨c1, c2⟩ := hcs wr hsr
      have n1 := nodesS_take_next ts k hlk
      have n2 := nodesS_take_le ts (k + 1)
      have n3 := ts[k].nodes_eq
      have m1 := depthS_at ts k hlk
      have m2 := depthS_take_next ts k hlk
      have m3 := depth_at ts[k]
      have b1 : depthS (ts.take k) ≤ 2097152 := by omega
      have b2 : 1 + depthS ts[k].args ≤ 2097152 := by omega
      have HM2 := Lib.hid m2
      have HM3 := Lib.hid m3
      clear m1 m2 m3
      have HC := Lib.hid (hI wr ts[k].kind hsr (by omega))
      have HN1 := Lib.hid n1
      have HN2 := Lib.hid n2
      have HN3 := Lib.hid n3
      clear hcs hT hI hsr n1 n2 n3
      go_wp2_with fail
      refine HC.out.mono ?_
      rintro e w1 ⟨r, hr, rfl, hb1⟩
      have HB1 := Lib.hid (HB.out.trans (hb1.mono HB.out.size))
      clear hb1
      subst hr
      go_wp2_with fail
      refine (max_any _ _ _).mono ?_
      rintro e w2 ⟨rfl, rfl⟩
      go_wp2_with fail
      go_roundw
      case rel => exact ⟨k + 1, by omega, by go_num, by have h1 := HM2.out; have h2 := HM3.out; rw [h1, h2]; go_num, HB1.out⟩
      case measure => simp [intOf]; omega
    · obtain rfl : k = ts.length := by omega
      rw [List.take_length]
      have b3 := depthS_nodes ts
      go_wp2_with fail
      go_ret
      exact ⟨_, rfl, by go_num, below_box HB.out⟩

set_option maxRecDepth 100000 in
set_option maxHeartbeats 1000000 in
theorem form_any {w0 : World} {C : Nat → Prop} {ts : List Ty} {v : Value} (h : TS w0 C ts v) : ∀ (w : World) (q : Int), Stays C w0 w → nodesS ts ≤ 2097152 → Calls Tryz.prog 137 #[.agg #[.int .i64 q, v]] w (BoolRet (fun r => r = (Ty.mk q ts).form) w) := by
  refine TS.ind (motive := fun ts v => ∀ (w : World) (q : Int), Stays C w0 w → nodesS ts ≤ 2097152 → Calls Tryz.prog 137 #[.agg #[.int .i64 q, v]] w (BoolRet (fun r => r = (Ty.mk q ts).form) w)) ?_ h
  intro ts p c hl H w q hst hn
  have HH := Lib.hid H
  have HST := Lib.hid hst
  have hlen := nodesS_ge ts
  clear H hst
  go_enter Tryz.func137, Tryz.ntmps137
  go_wp2_with fail
  go_loopw [3] (fun i wr => ∃ (k : Nat), k ≤ ts.length ∧ i = .int .i64 k ∧ formS (ts.take k) = true ∧ Below (w.alloc (.cells #[.int .i64 q, .slice p ts.length c] 26)).heap.size (w.alloc (.cells #[.int .i64 q, .slice p ts.length c] 26)) wr) (fun i _ => ts.length - (intOf i).toNat)
  case atStart => exact ⟨0, Nat.zero_le _, rfl, by simp [formS], Below.refl _ _⟩
  case round =>
    obtain ⟨k, hk, rfl, hfm, hbr⟩ := hrel
    have HB := Lib.hid hbr
    obtain ⟨d0, d1⟩ := box2 hbr
    clear hbr
    by_cases hlk : k < ts.length
    · obtain ⟨b, o, p', c', rfl, hcs, hT, hI⟩ := HH.out k _ (List.getElem?_eq_getElem hlk)
      have hsr := HST.out.trans (Stays.of_below (C := C) (below_box HB.out))
      obtain ⟨c1, c2⟩ := hcs wr hsr
      have n1 := nodesS_take_next ts k hlk
      have n2 := nodesS_take_le ts (k + 1)
      have n3 := ts[k].nodes_eq
      have HM := Lib.hid hfm
      clear hfm
      have HC := Lib.hid (hI wr ts[k].kind hsr (by omega))
      have HN1 := Lib.hid n1
      have HN2 := Lib.hid n2
      have HN3 := Lib.hid n3
      clear hcs hT hI hsr n1 n2 n3
      go_wp2_with fail
      refine HC.out.mono ?_
      rintro e w1 ⟨r, hr, rfl, hb1⟩
      have HB1 := Lib.hid (HB.out.trans (hb1.mono HB.out.size))
      clear hb1
      have HR := Lib.hid hr
      clear hr
      cases r with
      | true =>
        go_wp2_with fail
        go_roundw
        case rel => exact ⟨k + 1, by omega, by go_num, by rw [take_next hlk, formS_append, HM.out]; simpa [formS, ← Ty.eta] using HR.out.symm, HB1.out⟩
        case measure => simp [intOf]; omega
      | false =>
        go_wp2_with fail
        go_ret
        exact ⟨false, (form_false hlk (by rw [Ty.eta ts[k]]; exact HR.out.symm)).symm, rfl, below_box HB1.out⟩
    · obtain rfl : k = ts.length := by omega
      rw [List.take_length] at hfm
      have HM := Lib.hid hfm
      clear hfm
      by_cases q1 : q = 1
      · subst q1
        go_wp2_with fail
        go_ret
        exact ⟨_, form_kind HM.out (by simp [beq_0]), rfl, below_box HB.out⟩
      by_cases q2 : q = 2
      · subst q2
        go_wp2_with fail
        go_ret
        exact ⟨_, form_kind HM.out (by simp [beq_0]), rfl, below_box HB.out⟩
      by_cases q3 : q = 3
      · subst q3
        go_wp2_with fail
        go_ret
        exact ⟨_, form_kind HM.out (by simp [beq_2]), rfl, below_box HB.out⟩
      by_cases q4 : q = 4
      · subst q4
        go_wp2_with fail
        go_ret
        exact ⟨_, form_kind HM.out (by simp [beq_1]), rfl, below_box HB.out⟩
      go_wp2_with fail
      go_ret
      exact ⟨_, form_kind HM.out (by simp [q1, q2, q3, q4]), rfl, below_box HB.out⟩

set_option maxRecDepth 100000 in
set_option maxHeartbeats 1000000 in
theorem left_any {w0 : World} {C : Nat → Prop} {ts : List Ty} {v : Value} (h : TS w0 C ts v) : ∀ (w : World) (q : Int) (left : Int), Stays C w0 w → nodesS ts ≤ 2097152 → 0 ≤ left → left ≤ 2097152 → Calls Tryz.prog 135 #[.agg #[.int .i64 q, v], .int .i64 left] w (IntRet (LeftEnds left (1 + nodesS ts)) w) := by
  refine TS.ind (motive := fun ts v => ∀ (w : World) (q : Int) (left : Int), Stays C w0 w → nodesS ts ≤ 2097152 → 0 ≤ left → left ≤ 2097152 → Calls Tryz.prog 135 #[.agg #[.int .i64 q, v], .int .i64 left] w (IntRet (LeftEnds left (1 + nodesS ts)) w)) ?_ h
  intro ts p c hl H w q left hst hn h0 hL
  have HH := Lib.hid H
  have HST := Lib.hid hst
  have hlen := nodesS_ge ts
  clear H hst
  go_enter Tryz.func135, Tryz.ntmps135
  go_wp2_with fail
  go_loopw [1, 5] (fun l i wr => ∃ (k : Nat) (L : Int), k ≤ ts.length ∧ i = .int .i64 k ∧ l = .int .i64 L ∧ LeftEnds (left - 1) (nodesS (ts.take k)) L ∧ Below (w.alloc (.cells #[.int .i64 q, .slice p ts.length c] 26)).heap.size (w.alloc (.cells #[.int .i64 q, .slice p ts.length c] 26)) wr) (fun _ i _ => ts.length - (intOf i).toNat)
  case atStart => exact ⟨0, _, Nat.zero_le _, rfl, rfl, leftEnds_start h0, Below.refl _ _⟩
  case round =>
    obtain ⟨k, L, hk, rfl, rfl, hle, hbr⟩ := hrel
    have HB := Lib.hid hbr
    obtain ⟨d0, d1⟩ := box2 hbr
    clear hbr
    by_cases hlk : k < ts.length
    · obtain ⟨b, o, p', c', rfl, hcs, hT, hI⟩ := HH.out k _ (List.getElem?_eq_getElem hlk)
      have hsr := HST.out.trans (Stays.of_below (C := C) (below_box HB.out))
      obtain ⟨c1, c2⟩ := hcs wr hsr
      have n1 := nodesS_take_next ts k hlk
      have n2 := nodesS_take_le ts (k + 1)
      have n3 := ts[k].nodes_eq
      have HM := Lib.hid hle
      have hLr := hle.range (by omega)
      clear hle
      by_cases hneg : L < 0
      · clear hcs hT hI hsr n1 n3
        go_wp2_with fail
        go_ret
        exact ⟨_, HM.out.stop hneg n2, rfl, below_box HB.out⟩
      have HC := Lib.hid (hI wr ts[k].kind L hsr (by omega) (by omega) (by omega))
      have HN1 := Lib.hid n1
      have HN2 := Lib.hid n2
      have HN3 := Lib.hid n3
      clear hcs hT hI hsr n1 n2 n3
      go_wp2_with fail
      refine HC.out.mono ?_
      rintro e w1 ⟨r, hr, rfl, hb1⟩
      have HB1 := Lib.hid (HB.out.trans (hb1.mono HB.out.size))
      clear hb1
      have hr2 := hr.range (by omega)
      have HR := Lib.hid hr
      clear hr
      go_wp2_with fail
      go_roundw
      case rel => exact ⟨k + 1, r, by omega, by go_num, rfl, by rw [HN1.out, HN3.out]; exact HM.out.next HR.out (by omega), HB1.out⟩
      case measure => simp [intOf]; omega
    · obtain rfl : k = ts.length := by omega
      rw [List.take_length] at hle
      have HM := Lib.hid hle
      have hLr := hle.range (by omega)
      clear hle
      go_wp2_with fail
      go_ret
      exact ⟨_, HM.out.full, rfl, below_box HB.out⟩

end Go.Proofs.YtjobmgbchpoheaaGreatDoor
namespace Go.Proofs.YtjobmgbchpoheaaGreatDoor
open Go Go.RowKit

def Ty.valid (t : Ty) : Bool := decide (t.nodes ≤ 30) && decide (t.depth ≤ 8) && t.form
def Ty.base (t : Ty) : Bool := decide ((t.kind = 1 ∨ t.kind = 2) ∧ t.args.length = 0)
def Ty.plain (t : Ty) : Bool := t.valid && !t.has 4

set_option maxRecDepth 100000 in
set_option maxHeartbeats 1000000 in
theorem valid_any {C : Nat → Prop} {t : Ty} {v : Value} {w : World} (h : TT w C t v) (hn : nodesS t.args ≤ 2097152) :
    Calls Tryz.prog 104 #[v] w (BoolRet (fun r => r = t.valid) w) := by
  obtain ⟨s, rfl, hS⟩ := h
  obtain ⟨p, c, rfl⟩ := hS.form
  have hb0 := (Below.refl w.heap.size w).alloc (Nat.le_refl _) (Obj.cells #[.int .i64 t.kind, .slice p t.args.length c] 26)
  have HB0 := Lib.hid hb0
  have HL := Lib.hid (left_any hS _ t.kind 30 (.of_below hb0) hn (by omega) (by omega))
  have HD := Lib.hid (fun w' (hw : Below w.heap.size w w') => depth_any hS w' t.kind (.of_below hw) hn)
  have HF := Lib.hid (fun w' (hw : Below w.heap.size w w') => form_any hS w' t.kind (.of_below hw) hn)
  have hdn := depthS_nodes t.args
  clear hS hb0
  have HV := Lib.hid (show t.valid = (decide (1 + nodesS t.args ≤ 30) && decide (1 + depthS t.args ≤ 8) && (Ty.mk t.kind t.args).form) by rw [Ty.valid, Ty.nodes_eq, depth_at, ← Ty.eta])
  go_enter Tryz.func104, Tryz.ntmps104
  go_wp2_with fail
  refine HL.out.mono ?_
  rintro e w1 ⟨r, hr, rfl, hb1⟩
  obtain ⟨c0, c1⟩ := box2 hb1
  have HB1 := Lib.hid (HB0.out.trans (hb1.mono HB0.out.size))
  have HR := Lib.hid hr
  have hrr := hr.range (by omega)
  by_cases h0 : 0 ≤ r
  · have hn30 : 1 + nodesS t.args ≤ 30 := by unfold LeftEnds at hr; omega
    clear hr hb1
    go_wp2_with fail
    refine (HD.out w1 HB1.out).mono ?_
    rintro e w2 ⟨d, rfl, rfl, hb2⟩
    have c20 := (hb2.cell (World.block_lt_of_cell? w1 _ c0)).trans c0
    have c21 := (hb2.cell (World.block_lt_of_cell? w1 _ c1)).trans c1
    have HB2 := Lib.hid (HB1.out.trans (hb2.mono HB1.out.size))
    clear hb2 c0 c1
    by_cases h8 : 1 + depthS t.args ≤ 8
    · go_wp2_with fail
      refine (HF.out w2 HB2.out).mono ?_
      rintro e w3 ⟨f, hf, rfl, hb3⟩
      have HB3 := Lib.hid (HB2.out.trans (hb3.mono HB2.out.size))
      have HFF := Lib.hid hf
      clear hf hb3
      go_wp2_with fail
      go_ret
      exact ⟨_, by rw [HV.out, ← HFF.out]; simp [hn30, h8], rfl, HB3.out⟩
    · go_wp2_with fail
      go_ret
      exact ⟨_, by rw [HV.out]; simp [h8], rfl, HB2.out⟩
  · have hn30 : ¬ 1 + nodesS t.args ≤ 30 := by unfold LeftEnds at hr; omega
    clear hr hb1
    go_wp2_with fail
    go_ret
    exact ⟨_, by rw [HV.out]; simp [hn30], rfl, HB1.out⟩

theorem formS_cons (t : Ty) (ts : List Ty) : formS (t :: ts) = true ↔ t.form = true ∧ formS ts = true := by simp [formS]
theorem form_mk (k : Int) (ts : List Ty) : (Ty.mk k ts).form = true ↔ formS ts = true ∧ ((k = 1 ∨ k = 2) ∧ ts.length = 0 ∨ k = 3 ∧ ts.length = 2 ∨ k = 4 ∧ ts.length = 1) := by
  simp only [Ty.form, Bool.and_eq_true]
  refine and_congr Iff.rfl ?_
  split
  · next h => simp only [beq_iff_eq]; omega
  · split
    · next h => simp only [beq_iff_eq]; omega
    · simp only [Bool.and_eq_true, beq_iff_eq]; omega
theorem valid_iff (t : Ty) : t.valid = true ↔ t.nodes ≤ 30 ∧ t.depth ≤ 8 ∧ t.form = true := by simp [Ty.valid, and_assoc]
end Go.Proofs.YtjobmgbchpoheaaGreatDoor
