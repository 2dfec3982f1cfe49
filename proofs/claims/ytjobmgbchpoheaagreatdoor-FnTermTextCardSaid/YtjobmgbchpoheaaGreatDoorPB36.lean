/-
  Several texts of the proof in one (each says below what it holds): TxA KA SizesM TmWalk.
-/
import Derived.Test.YtjobmgbchpoheaaGreatDoorPB23
import Derived.Test.YtjobmgbchpoheaaGreatDoorPB34
import Derived.Test.YtjobmgbchpoheaaGreatDoorPB35
import Derived.Test.YtjobmgbchpoheaaGreatDoorPB10
import Derived.Test.YtjobmgbchpoheaaGreatDoorPB4
import Derived.Test.YtjobmgbchpoheaaGreatDoorPB12
import Derived.Lib.LaidTab
namespace Go.Proofs.YtjobmgbchpoheaaGreatDoor
open Go Go.RowKit
structure It where
  ss : List (List UInt8)
  ts : List Tm
  b : Nat
  i : Nat
  c : Nat
  v : Value
def It.sv (x : It) : Value := .slice (some ⟨x.b, x.i, none⟩) x.ss.length x.c
def icells (st : List It) : List Value := st.flatMap fun e => [e.sv, e.v]
theorem icells_length (st : List It) : (icells st).length = st.length * 2 := by
  induction st with
  | nil => rfl
  | cons e st ih => simp only [icells, List.flatMap_cons, List.length_append, List.length_cons, List.length_nil] at *; omega
theorem icells_snoc (st : List It) (e : It) : icells (st ++ [e]) = icells st ++ [e.sv, e.v] := by simp [icells]
theorem icells_take (st : List It) (e : It) : (icells (st ++ [e])).take (st.length * 2) = icells st := by
  rw [icells_snoc, ← icells_length, List.take_left]
theorem icells_last (st : List It) (e : It) : (icells (st ++ [e]))[st.length * 2]? = some e.sv ∧ (icells (st ++ [e]))[st.length * 2 + 1]? = some e.v := by
  have h := icells_length st
  rw [icells_snoc]
  refine ⟨?_, ?_⟩ <;> (rw [List.getElem?_append_right (by omega), h]; simp)
theorem icells_set (st : List It) (e f : It) : ((icells (st ++ [e])).set (st.length * 2) f.sv).set (st.length * 2 + 1) f.v = icells (st ++ [f]) := by
  have h := icells_length st
  rw [icells_snoc, icells_snoc, List.set_append, if_neg (by omega), List.set_append, if_neg (by omega), h]
  simp
def outL (st : List It) : List UInt8 := (st.reverse.map fun e => wv e.ss e.ts).flatten
theorem outL_snoc (st : List It) (e : It) : outL (st ++ [e]) = wv e.ss e.ts ++ outL st := by simp [outL]
def iload (st : List It) : Nat := (st.map fun e => 1 + 2 * nodesM e.ts).sum
theorem iload_snoc (st : List It) (e : It) : iload (st ++ [e]) = iload st + (1 + 2 * nodesM e.ts) := by simp [iload]
theorem iload_len (st : List It) : st.length ≤ iload st := by
  induction st with
  | nil => simp [iload]
  | cons e st ih => simp only [iload, List.map_cons, List.sum_cons, List.length_cons] at *; omega
theorem infoBg : (Tryz.prog.info? 56).map (fun i => (i.zero, i.size, i.bytes)) = some (some (.agg #[.slice none 0 0, .slice none 0 0]), 2, 48) := by kernel_rfl
structure Itm (w : World) (W : World) (R : Nat) (vb : Value) (g : Nat) (x : It) : Prop where
  len : x.ss.length = x.ts.length + 1
  cap : x.ss.length ≤ x.c
  top : x.c ≤ 8
  lo : w.heap.size ≤ x.b
  lt : x.b < W.heap.size
  nR : x.b ≠ R
  nv : vb.ownBlock ≠ some x.b
  ng : x.b ≠ g
  cells : ∀ j s, x.ss[j]? = some s → W.cell? ⟨x.b, x.i + j, none⟩ = some (.string ⟨s.toArray⟩)
  args : LM w (· < w.heap.size) x.ts x.v
  isT : ∀ t ∈ x.ts, t.IsT
  wt : wtS x.ts ≤ 2097152
structure TxS (w : World) (R : Nat) (st : List It) (g cap : Nat) (vb : Value) (l : List UInt8) (W : World) : Prop where
  below : Below w.heap.size w W
  bu : Bu w.heap.size R vb l W
  own : W.ownsRow w.heap.size 56 2 (.slice (some ⟨g, 0, none⟩) st.length cap) st.length (icells st)
  gR : g ≠ R
  gv : vb.ownBlock ≠ some g
  its : ∀ x ∈ st, Itm w W R vb g x
namespace TxS
variable {w W W' : World} {R g cap g' cap' : Nat} {st : List It} {vb vb' : Value} {l l' : List UInt8}
theorem vlt (h : TxS w R st g cap vb l W) {k : Nat} (hk : vb.ownBlock = some k) : k < W.heap.size := (h.bu.own.lt k hk).2
theorem keep (h : TxS w R st g cap vb l W) (hb : Below W.heap.size W W') : TxS w R st g cap vb l W' :=
  ⟨h.below.trans (hb.mono h.below.size), h.bu.keep (hb.block _ h.bu.lt) (fun k hk => hb.block k (h.vlt hk)), row_below h.own hb, h.gR, h.gv,
    fun x hx => have i := h.its x hx; ⟨i.len, i.cap, i.top, i.lo, Nat.lt_of_lt_of_le i.lt hb.size, i.nR, i.nv, i.ng, fun j s hs => (hb.cell (p := ⟨x.b, x.i + j, none⟩) i.lt).trans (i.cells j s hs), i.args, i.isT, i.wt⟩⟩
theorem wrote (h : TxS w R st g cap vb l W) (hb : Below w.heap.size W W') (hbu : Bu w.heap.size R vb' l' W') (hk : ∀ k, k < W.heap.size → k ≠ R → vb.ownBlock ≠ some k → W'.heap[k]? = W.heap[k]?)
    (hv : ∀ k, vb'.ownBlock = some k → vb.ownBlock = some k ∨ W.heap.size ≤ k) (hg : g < W.heap.size) : TxS w R st g cap vb' l' W' := by
  have nv' : ∀ b, b < W.heap.size → vb.ownBlock ≠ some b → vb'.ownBlock ≠ some b := fun b hlt hne e => by
    rcases hv b e with h1 | h1
    · exact hne h1
    · omega
  refine ⟨h.below.trans hb, hbu, row_of_block h.own (hk g hg h.gR h.gv), h.gR, nv' g hg h.gv, fun x hx => ?_⟩
  have i := h.its x hx
  exact ⟨i.len, i.cap, i.top, i.lo, Nat.lt_of_lt_of_le i.lt hb.size, i.nR, nv' _ i.lt i.nv, i.ng, fun j s hs => (World.cell?_of_block (a := ⟨x.b, x.i + j, none⟩) (hk x.b i.lt i.nR i.nv)).trans (i.cells j s hs), i.args, i.isT, i.wt⟩
theorem pop {e : It} (h : TxS w R (st ++ [e]) g cap vb l W) : TxS w R st g cap vb l W := by
  have h1 := h.own
  rw [List.length_append, List.length_singleton] at h1
  have h2 := row_take h1 (Nat.le_succ st.length)
  rw [icells_take] at h2
  exact ⟨h.below, h.bu, h2, h.gR, h.gv, fun x hx => h.its x (List.mem_append_left _ hx)⟩
theorem set {e f : It} (h : TxS w R (st ++ [e]) g cap vb l W) (hown : W'.ownsRow w.heap.size 56 2 (.slice (some ⟨g, 0, none⟩) (st.length + 1) cap) (st.length + 1) (icells (st ++ [f])))
    (hb : Below w.heap.size W W') (hk : ∀ k, k ≠ g → W'.heap[k]? = W.heap[k]?) (hf : Itm w W R vb g f) : TxS w R (st ++ [f]) g cap vb l W' := by
  have mv : ∀ x, Itm w W R vb g x → Itm w W' R vb g x := fun x i =>
    ⟨i.len, i.cap, i.top, i.lo, Nat.lt_of_lt_of_le i.lt hb.size, i.nR, i.nv, i.ng, fun j s hs => (World.cell?_of_block (a := ⟨x.b, x.i + j, none⟩) (hk x.b i.ng)).trans (i.cells j s hs), i.args, i.isT, i.wt⟩
  refine ⟨h.below.trans hb, h.bu.keep (hk R (fun e => h.gR e.symm)) (fun k hkv => hk k (fun e => h.gv (by rw [← e]; exact hkv))), ?_, h.gR, h.gv, fun x hx => ?_⟩
  · rw [List.length_append, List.length_singleton]; exact hown
  · rcases List.mem_append.1 hx with hx | hx
    · exact mv x (h.its x (List.mem_append_left _ hx))
    · simp only [List.mem_singleton] at hx; subst hx; exact mv _ hf
theorem push {e : It} (h : TxS w R st g cap vb l W) (hA : Appd W W' w.heap.size 56 2 (.slice (some ⟨g, 0, none⟩) st.length cap) st.length (icells st) [e.sv, e.v] g' cap') (he : Itm w W R vb g e) : TxS w R (st ++ [e]) g' cap' vb l W' := by
  have hs := hA.size
  have kp : ∀ k, k < W.heap.size → k ≠ g → W'.heap[k]? = W.heap[k]? ∧ g' ≠ k := fun k hk hne => hA.kept k hk (by simp only [Value.ownBlock, ne_eq, Option.some.injEq]; omega)
  have mv : ∀ x, Itm w W R vb g x → Itm w W' R vb g' x := fun x i =>
    have k := kp x.b i.lt i.ng
    ⟨i.len, i.cap, i.top, i.lo, Nat.lt_of_lt_of_le i.lt hs, i.nR, i.nv, fun e => k.2 e.symm, fun j s hs => (World.cell?_of_block (a := ⟨x.b, x.i + j, none⟩) k.1).trans (i.cells j s hs), i.args, i.isT, i.wt⟩
  have kR := kp R h.bu.lt (fun e => h.gR e.symm)
  refine ⟨h.below.trans hA.below, h.bu.keep kR.1 (fun k hkv => (kp k (h.vlt hkv) (fun e => h.gv (by rw [← e]; exact hkv))).1), ?_, kR.2, fun e2 => ?_, fun x hx => ?_⟩
  · rw [List.length_append, List.length_singleton, icells_snoc]; exact hA.own
  · exact (kp g' (h.vlt e2) (fun e3 => h.gv (by rw [← e3]; exact e2))).2 rfl
  · rcases List.mem_append.1 hx with hx | hx
    · exact mv x (h.its x hx)
    · simp only [List.mem_singleton] at hx; subst hx; exact mv _ he
end TxS
theorem Itm.new {w W : World} {R g b : Nat} {vb : Value} {t : Tm} {v : Value} (hb : W.heap[b]? = some (.cells (strC (sg t)) 9 (0, 0))) (hlen : (sg t).length = t.args.length + 1) (h4 : (sg t).length ≤ 4) (hlo : w.heap.size ≤ b) (hR : b ≠ R) (hv : vb.ownBlock ≠ some b) (hg : b ≠ g)
    (ha : LM w (· < w.heap.size) t.args v) (hi : ∀ x ∈ t.args, x.IsT) (hw : wtS t.args ≤ 2097152) : Itm w W R vb g ⟨sg t, t.args, b, 0, (sg t).length, v⟩ :=
  ⟨hlen, Nat.le_refl _, by show (sg t).length ≤ 8; omega, hlo, (Array.getElem?_eq_some_iff.1 hb).1, hR, hv, hg, fun j s hs => by
    show W.cell? ⟨b, 0 + j, none⟩ = _
    rw [Nat.zero_add, cell_of_blk hb j]
    obtain ⟨hlt, rfl⟩ := List.getElem?_eq_some_iff.1 hs
    simp only [strC, List.getElem?_toArray, List.getElem?_map]
    rw [List.getElem?_eq_getElem hlt]; rfl, ha, hi, hw⟩
end Go.Proofs.YtjobmgbchpoheaaGreatDoor
namespace Go.Proofs.YtjobmgbchpoheaaGreatDoor
open Go Go.RowKit

theorem gKA : Tryz.prog.globalNamed "loop.example/g00589/impl.kindArity" = some 0 := by kernel_rfl
def kaTab : List Int := [0, 0, 0, 0, 0, 3, 1, 2, 2, 1, 1, 1, 1, 1]
def KA (w : World) : Prop := Lib.TabIs Tryz.prog w "loop.example/g00589/impl.kindArity" .i64 kaTab ∧ 0 < w.heap.size
theorem KA.below {w w' : World} (h : KA w) (hb : Below w.heap.size w w') : KA w' := ⟨var?_below hb gKA h.2 h.1, Nat.lt_of_lt_of_le h.2 hb.size⟩
theorem KA.cell {w : World} (h : KA w) (i : Nat) : w.cell? ⟨0, i, none⟩ = ((kaTab.map fun z => Value.int .i64 z).toArray)[i]? := World.var?_cell gKA h.1 i
def Tm.NodeOk (t : Tm) : Prop := t.FieldsOk ∧ (t.args.length : Int) = t.arity
theorem ok_ex : ∃ ok : Tm → Bool, ∀ x, ok x = true ↔ x.NodeOk := ⟨fun x => @decide x.NodeOk (Classical.propDecidable _), fun _ => @decide_eq_true_iff _ (Classical.propDecidable _)⟩
end Go.Proofs.YtjobmgbchpoheaaGreatDoor
namespace Go.Proofs.YtjobmgbchpoheaaGreatDoor
open Go Go.RowKit Go.Shelf
attribute [local go_sem] Oper.semAt_some

theorem nstaysM {w w' : World} {C : Nat → Prop} {t : Tm} {v : Value} (h : NM w C t v) (hs : Stays C w w') : NM w' C t v := TM.stays h hs
abbrev encNM (x : Tm × Value × Nat) : Array Value := #[x.2.1, .int .i64 (x.2.2 : Nat)]
abbrev keyNM (x : Tm × Value × Nat) : Tm × Nat := (x.1, x.2.2)
abbrev GoodNM (C : Nat → Prop) (x : Tm × Value × Nat) (W : World) : Prop := NM W C x.1 x.2.1
structure IterM (w : World) (t : Tm) (tp : Option Addr) (tc : Nat) (rp : Option Addr) (rc : Nat) (p : Option Addr) (c : Nat) (Bt Bp : Nat) : Prop where
  bt : w.heap[Bt]? = some (.cells (tmC t tp tc rp rc p c) 29 (0, 0))
  bp : w.heap[Bp]? = some (.cells #[.func (.func 30) #[] #[]] 49 (0, 0))
  node : TM' w (· < w.heap.size) t tp tc rp rc p c
abbrev iterM (Bt Bp : Nat) : Value := .func (.func 122) #[] #[.pointer (some ⟨Bt, 0, none⟩), .pointer (some ⟨Bp, 0, none⟩)]

theorem nodesM_seq {w wl : World} {t : Tm} {tp : Option Addr} {tc : Nat} {rp : Option Addr} {rc : Nat} {p : Option Addr} {c : Nat} {Bt Bp : Nat} (h : IterM w t tp tc rp rc p c Bt Bp) (hn : t.nodes ≤ 2097153) (hb : Below w.heap.size w wl) (Cb : Nat → Prop) (hCb : ∀ b, Cb b → w.heap.size ≤ b ∧ b < wl.heap.size) :
    SeqT Fence.wide 1 Tryz.prog 122 #[.pointer (some ⟨Bt, 0, none⟩), .pointer (some ⟨Bp, 0, none⟩)] encNM keyNM (GoodNM (· < w.heap.size)) Cb (walkM t 1) wl := by
  intro l J Jx W hbW hJ hY hJ0
  have hbt := (Array.getElem?_eq_some_iff.1 h.bt).1
  have hbp := (Array.getElem?_eq_some_iff.1 h.bp).1
  have hbb : Below w.heap.size w W := hb.trans (hbW.mono hb.size)
  exact nodesM_it l Bt Bp t tp tc rp rc p c Cb (· < w.heap.size) W J Jx ((hbb.block _ hbt).trans h.bt) ((hbb.block _ hbp).trans h.bp) (h.node.stays (.of_below hbb)) hn
    (fun b hc => Nat.lt_of_lt_of_le (hCb b hc).2 hbW.size) (fun b hc => ⟨fun h2 => by have := (hCb b h2).1; omega, Nat.lt_of_lt_of_le hc hbb.size⟩) hbp hJ (fun pre x v d W1 h1 h2 h3 => hY pre (x, v, d) W1 h1 h2 h3) hJ0
theorem nodesM_seq2 {w wl : World} {C : Nat → Prop} {t : Tm} {tp : Option Addr} {tc : Nat} {rp : Option Addr} {rc : Nat} {p : Option Addr} {c : Nat} {Bt Bp : Nat} (h : IterM w t tp tc rp rc p c Bt Bp) (hT : TM' w C t tp tc rp rc p c) (hn : t.nodes ≤ 2097153) (hb : Below w.heap.size w wl) (Cb : Nat → Prop) (hCb : ∀ b, Cb b → b < wl.heap.size) (hC : ∀ b, C b → ¬ Cb b ∧ b < w.heap.size) (hp : C Bp) :
    SeqT Fence.wide 1 Tryz.prog 122 #[.pointer (some ⟨Bt, 0, none⟩), .pointer (some ⟨Bp, 0, none⟩)] encNM keyNM (GoodNM C) Cb (walkM t 1) wl := by
  intro l J Jx W hbW hJ hY hJ0
  have hbt := (Array.getElem?_eq_some_iff.1 h.bt).1
  have hbp := (Array.getElem?_eq_some_iff.1 h.bp).1
  have hbb : Below w.heap.size w W := hb.trans (hbW.mono hb.size)
  exact nodesM_it l Bt Bp t tp tc rp rc p c Cb C W J Jx ((hbb.block _ hbt).trans h.bt) ((hbb.block _ hbp).trans h.bp) (hT.stays (.of_below hbb)) hn
    (fun b hc => Nat.lt_of_lt_of_le (hCb b hc) hbW.size) (fun b hc => ⟨(hC b hc).1, Nat.lt_of_lt_of_le (hC b hc).2 hbb.size⟩) hp hJ (fun pre x v d W1 h1 h2 h3 => hY pre (x, v, d) W1 h1 h2 h3) hJ0

theorem goodM_keep {C : Nat → Prop} {n : Nat} (hC : ∀ b, C b → b < n) (x : Tm × Value × Nat) (A B : World) (h : GoodNM C x A) (hb : Below n A B) : GoodNM C x B :=
  nstaysM h ⟨hb.size, fun b hc _ => hb.block b (hC b hc)⟩

def MakesIterM (t : Tm) (tp : Option Addr) (tc : Nat) (rp : Option Addr) (rc : Nat) (p : Option Addr) (c : Nat) (w : World) (e : Ending) (w' : World) : Prop := ∃ Bt Bp, e = .returned (iterM Bt Bp) ∧ IterM w' t tp tc rp rc p c Bt Bp ∧ Below w.heap.size w w' ∧ w.heap.size ≤ Bt ∧ w.heap.size ≤ Bp
set_option maxRecDepth 100000 in
theorem tnM_any {C : Nat → Prop} {t : Tm} {tp : Option Addr} {tc : Nat} {rp : Option Addr} {rc : Nat} {p : Option Addr} {c : Nat} {w : World} (h : TM' w C t tp tc rp rc p c) : Calls Tryz.prog 51 #[tmV t tp tc rp rc p c] w (MakesIterM t tp tc rp rc p c w) := by
  have HT := Lib.hid (h.mono (C' := (· < w.heap.size)) (fun _ _ hl => hl))
  clear h
  go_enter Tryz.func51, Tryz.ntmps51
  go_wp2
  obtain ⟨wl, hwl, hsz, hbl, _, k1, k2⟩ := box_new3 w (tmC t tp tc rp rc p c) (tmC t tp tc rp rc p c) #[.func (.func 30) #[] #[]] 29 29 49
  rw [hwl]
  go_ret
  exact ⟨_, _, rfl, ⟨k1, k2, (HT.out.stays (.of_below hbl)).mono (fun z hz _ => by omega)⟩, hbl, by omega, by omega⟩

theorem walkM_pre {pre : List (Tm × Nat)} {t : Tm} (h : pre <+: walkM t 1) (hn : t.nodes ≤ 2097153) : pre.length ≤ 2097153 := by
  have h1 := h.length_le
  rw [walkM_length] at h1
  omega
def maxdM : List (Tm × Nat) → Nat
  | [] => 0
  | e :: l => max e.2 (maxdM l)
theorem maxdM_append (a b : List (Tm × Nat)) : maxdM (a ++ b) = max (maxdM a) (maxdM b) := by
  induction a with
  | nil => simp [maxdM]
  | cons e a ih => simp only [List.cons_append, maxdM, ih]; omega
theorem maxdM_snoc (a : List (Tm × Nat)) (e : Tm × Nat) : maxdM (a ++ [e]) = max (maxdM a) e.2 := by rw [maxdM_append]; simp [maxdM]
theorem maxdM_prefix {a b : List (Tm × Nat)} (h : a <+: b) : maxdM a ≤ maxdM b := by
  obtain ⟨c, rfl⟩ := h
  rw [maxdM_append]
  omega
theorem maxdM_le {l : List (Tm × Nat)} {n : Nat} : maxdM l ≤ n ↔ ∀ e ∈ l, e.2 ≤ n := by
  induction l with
  | nil => simp [maxdM]
  | cons e l ih =>
    rw [List.forall_mem_cons, ← ih]
    simp only [maxdM]
    omega
mutual
theorem maxdM_walk : ∀ (t : Tm) (d : Nat), maxdM (walkM t d) + 1 = d + t.depth
  | .mk k a b n t r ts, d => by
    have h := maxdM_walkS ts d
    simp only [walkM, maxdM, Tm.depth]
    omega
theorem maxdM_walkS : ∀ (ts : List Tm) (d : Nat), max d (maxdM (walkSM ts (d + 1))) = d + depthM ts
  | [], d => by simp [walkSM, maxdM, depthM]
  | t :: ts, d => by
    have h1 := maxdM_walkS ts d
    have h2 := maxdM_walk t (d + 1)
    simp only [walkSM, maxdM_append, depthM]
    omega
end

end Go.Proofs.YtjobmgbchpoheaaGreatDoor
namespace Go.Proofs.YtjobmgbchpoheaaGreatDoor
open Go Go.RowKit

mutual
theorem isT_walk : ∀ (t : Tm) (d : Nat), t.IsT ↔ ∀ e ∈ walkM t d, e.1.NodeOk
  | .mk k a b n t r ts, d => by
    have h := isTS_walk ts (d + 1)
    rw [Tm.IsT_eq]
    show IsTS ts ∧ _ ∧ _ ↔ _
    rw [h]
    simp only [walkM, List.forall_mem_cons]
    exact And.comm
theorem isTS_walk : ∀ (ts : List Tm) (d : Nat), IsTS ts ↔ ∀ e ∈ walkSM ts d, e.1.NodeOk
  | [], d => by simp [IsTS, walkSM]
  | t :: ts, d => by
    have h1 := isTS_walk ts d
    have h2 := isT_walk t d
    simp only [IsTS, walkSM, List.forall_mem_append, h1, h2]
end
theorem validM_walk (t : Tm) {ok : Tm → Bool} (hok : ∀ x, ok x = true ↔ x.NodeOk) : t.Valid ↔ (∀ e ∈ walkM t 1, ok e.1 = true ∧ e.2 ≤ 20) ∧ t.nodes ≤ 80 := by
  have h1 := isT_walk t 1
  have h2 : t.depth ≤ 20 ↔ ∀ e ∈ walkM t 1, e.2 ≤ 20 := by
    rw [← maxdM_le]
    have := maxdM_walk t 1
    omega
  unfold Tm.Valid
  rw [h1, h2]
  constructor
  · rintro ⟨a, b, c⟩
    exact ⟨fun e he => ⟨(hok _).2 (c e he), b e he⟩, a⟩
  · rintro ⟨a, b⟩
    exact ⟨b, fun e he => (a e he).2, fun e he => (hok _).1 (a e he).1⟩
def AllOk (pre : List (Tm × Nat)) : Prop := ∀ e ∈ pre, e.1.NodeOk
theorem AllOk.next {pre : List (Tm × Nat)} {x : Tm} {d : Nat} (h : AllOk pre) (hx : x.NodeOk) : AllOk (pre ++ [(x, d)]) := by
  intro e he
  rcases List.mem_append.1 he with he | he
  · exact h e he
  · simp only [List.mem_singleton] at he; subst he; exact hx
theorem isT_of {t : Tm} (h : AllOk (walkM t 1)) : t.IsT := (isT_walk t 1).2 h
theorem not_isT_at {t x : Tm} {d : Nat} {pre : List (Tm × Nat)} (h : pre ++ [(x, d)] <+: walkM t 1) (hx : ¬ x.NodeOk) : ¬ t.IsT := fun hh =>
  hx ((isT_walk t 1).1 hh (x, d) (h.subset (by simp)))
mutual
theorem wt_walk : ∀ (t : Tm) (d : Nat) (e : Tm × Nat), e ∈ walkM t d → e.1.wt ≤ t.wt
  | .mk k a b n t r ts, d, e, h => by
    rw [walkM] at h
    rcases List.mem_cons.1 h with rfl | h
    · exact Nat.le_refl _
    · have h1 := wt_walkS ts (d + 1) e h
      simp only [Tm.wt]
      omega
theorem wt_walkS : ∀ (ts : List Tm) (d : Nat) (e : Tm × Nat), e ∈ walkSM ts d → e.1.wt ≤ wtS ts
  | [], d, e, h => by simp [walkSM] at h
  | t :: ts, d, e, h => by
    rw [walkSM] at h
    rcases List.mem_append.1 h with h | h
    · have h1 := wt_walk t d e h
      simp only [wtS]
      omega
    · have h1 := wt_walkS ts d e h
      simp only [wtS]
      omega
end
end Go.Proofs.YtjobmgbchpoheaaGreatDoor
