/-
  Several texts of the proof in one (each says below what it holds): TyCopy TyInd OpenT RowN.
-/
import Derived.Test.YteoeefmdfalnjaaSc1
import Derived.Lib.SmallJoins
import Derived.OwnWalk
import Derived.Below
import Derived.Laws.AppendOwn
import Derived.Laws.OwnMore
import Derived.ArgAppend
import Derived.OwnWalkIn
import Derived.Deep.RegionLaw
/- TyCopy: The contract of the laws' toTypeS and toType: the same type, in rows of the call's own. -/
namespace Go.Proofs.Yteoeefmdfalnjaa
open Go Go.RowKit

/-- A new type: the same as t, in blocks that were not there. -/
def NewT (t : Ty) (w : World) (e : Ending) (w' : World) : Prop := ∃ v, e = .returned v ∧ OT w' t v (fun g => w.heap.size ≤ g ∧ g < w'.heap.size) ∧ Below w.heap.size w w'
def NewTS (ts : List Ty) (w : World) (e : Ending) (w' : World) : Prop := ∃ v, e = .returned v ∧ OS w' ts v (fun g => w.heap.size ≤ g ∧ g < w'.heap.size) ∧ Below w.heap.size w w'

theorem blk_new (w : World) (o : Obj) : (w.alloc o).heap[w.heap.size]? = some o := by
  show (w.heap.push o)[w.heap.size]? = _
  simp
theorem results_cell1 {fn : Func} {p : Tmp} {ty : TypeId} (h : fn.results = #[.cell p ty]) (tmps : Array Value) (P : Program) (w : World) :
    (results fn tmps).run P w = ((asAddr (tmps.getD p undef)).run P w).andThen fun a w₁ => (loadVar ty a).run P w₁ := by
  simp only [results, h]
  simp [Sem.run_bind, Result.andThen]

theorem blocks3 (w w1 : World) (A B C : Array Value) (tA tB tC : TypeId) (h : Below (((w.alloc (.cells A tA)).alloc (.cells B tB)).alloc (.cells C tC)).heap.size (((w.alloc (.cells A tA)).alloc (.cells B tB)).alloc (.cells C tC)) w1) :
    w1.heap[w.heap.size + 1]? = some (.cells B tB (0, 0)) ∧ w1.heap[w.heap.size + 1 + 1]? = some (.cells C tC (0, 0)) := by
  have s1 : (w.alloc (.cells A tA)).heap.size = w.heap.size + 1 := by simp
  have s2 : ((w.alloc (.cells A tA)).alloc (.cells B tB)).heap.size = w.heap.size + 1 + 1 := by simp
  constructor
  · rw [h.block _ (by simp), Below.heap_alloc _ _ _ (by simp), ← s1]
    exact blk_new _ _
  · rw [h.block _ (by simp), ← s2]
    exact blk_new _ _
theorem cell_of_blk {w : World} {g : Nat} {cs : Array Value} {t : TypeId} {fr : Nat × Nat} (h : w.heap[g]? = some (.cells cs t fr)) (i : Nat) : w.cell? ⟨g, i, none⟩ = cs[i]? := by simp [World.cell?, h]
theorem unfrozen_of_blk {w : World} {g : Nat} {cs : Array Value} {t : TypeId} (h : w.heap[g]? = some (.cells cs t (0, 0))) (i : Nat) : w.frozen? ⟨g, i, none⟩ = false := by simp [World.frozen?, h]

theorem newT_done {k : Int} {ts : List Ty} {w W w1 : World} {n q : Nat} {p : Option Addr} {i1 i2 i3 : Nat} {v1 v2 v3 : Value} (ho : OS w1 ts (.slice p n q) (fun g => W.heap.size ≤ g ∧ g < w1.heap.size)) (hb : Below w.heap.size w w1)
    (hW : w.heap.size + 1 + 1 < W.heap.size) :
    NewT (.mk k ts) w (.returned (.agg #[.int .i64 k, .slice p n q])) (((w1.setCell ⟨w.heap.size + 1 + 1, i1, none⟩ v1).setCell ⟨w.heap.size + 1, i2, none⟩ v2).setCell ⟨w.heap.size + 1, i3, none⟩ v3) := by
  have hs : (((w1.setCell ⟨w.heap.size + 1 + 1, i1, none⟩ v1).setCell ⟨w.heap.size + 1, i2, none⟩ v2).setCell ⟨w.heap.size + 1, i3, none⟩ v3).heap.size = w1.heap.size := by simp [World.setCell]
  refine ⟨_, rfl, ⟨_, rfl, OS.mono (ho.stays (((setCell_stays _ _ _ _ _ (by omega)).trans (setCell_stays _ _ _ _ _ (by omega))).trans (setCell_stays _ _ _ _ _ (by omega)))) (fun b hb => ?_)⟩, ((hb.setCell (p := ⟨w.heap.size + 1 + 1, i1, none⟩) (by show w.heap.size ≤ w.heap.size + 1 + 1; omega) _).setCell (p := ⟨w.heap.size + 1, i2, none⟩) (by show w.heap.size ≤ w.heap.size + 1; omega) _).setCell (p := ⟨w.heap.size + 1, i3, none⟩) (by show w.heap.size ≤ w.heap.size + 1; omega) _⟩
  rw [hs]
  omega

set_option maxRecDepth 100000 in
set_option maxHeartbeats 1000000 in
theorem toT_of (k : Int) (p : Option Addr) (l c : Nat) (ts : List Ty) (w : World)
    (h : ∀ w', Below w.heap.size w w' → Calls Try.prog 47 #[.slice p l c] w' (NewTS ts w')) :
    Calls Try.prog 34 #[.agg #[.int .i64 k, .slice p l c]] w (NewT (.mk k ts) w) := by
  have HH := Lib.hid h
  have HB := Lib.hid ((((Below.refl w.heap.size w).alloc (Nat.le_refl _) (Obj.cells #[.int .i64 k, .slice p l c] 35)).alloc (by simp) (Obj.cells #[.int .i64 0, .slice none 0 0] 41)).alloc (by simp; omega) (Obj.cells #[.int .i64 k, .slice none 0 0] 41))
  clear h
  go_enter Try.func34, Try.ntmps34
  go_wp2_with fail
  refine (HH.out _ HB.out).mono ?_
  rintro e w1 ⟨s, rfl, ho, hb1⟩
  obtain ⟨b1, b2⟩ := blocks3 _ _ _ _ _ _ _ _ hb1
  have c10 := cell_of_blk b1 0
  have c11 := cell_of_blk b1 1
  have c20 := cell_of_blk b2 0
  have c21 := cell_of_blk b2 1
  have z1 := unfrozen_of_blk b1
  have z2 := unfrozen_of_blk b2
  simp only [List.getElem?_toArray, List.getElem?_cons_zero, List.getElem?_cons_succ] at c10 c11 c20 c21
  obtain ⟨p', q', hf⟩ := ho.form
  subst hf
  have HO := Lib.hid ho
  have HB1 := Lib.hid (HB.out.trans (hb1.mono HB.out.size))
  clear ho hb1 b1 b2
  go_wp2_with fail
  refine bodyPost_ret (v := .agg #[.int .i64 k, .slice p' ts.length q']) ?_ rfl ?_
  · rw [results_cell1 rfl]
    go_simp
  · exact newT_done HO.out HB1.out (by simp)

/-- The zero type, as often as is asked. -/
theorem zeros_at (n j : Nat) (h : j < n) : (madeCells (#[Value.int .i64 0, Value.slice none 0 0]) (n * 2)).toList[j * 2]? = some (.int .i64 0) ∧ (madeCells (#[Value.int .i64 0, Value.slice none 0 0]) (n * 2)).toList[j * 2 + 1]? = some (.slice none 0 0) := by
  have h1 : j * 2 < n * 2 := by omega
  have h2 : j * 2 + 1 < n * 2 := by omega
  have e2 : (j * 2 + 1) % 2 = 1 := by omega
  constructor
  · simp [madeCells, h1]
  · simp [madeCells, h2, e2]

set_option maxRecDepth 100000 in
set_option maxHeartbeats 1000000 in
theorem toS_any {w0 : World} {C : Nat → Prop} {ts : List Ty} {v : Value} (h : TS w0 C ts v) : ∀ (w : World), Stays C w0 w → nodesS ts ≤ 1048576 →
    Calls Try.prog 47 #[v] w (NewTS ts w) := by
  obtain ⟨i0, hi, hz0, hz1, hz2⟩ := info_parts infoTy
  induction h with
  | nil a c =>
    intro w hst hn
    go_enter Try.func47, Try.ntmps47
    go_wp2_with (at_make; refine wpList_make_full _ rfl _ _ 39 rfl w.heap.size 41 i0 (.agg #[.int .i64 0, .slice none 0 0]) 2 Try.underlying39 hi hz0 hz1 .i64 .i64 _ _ 0 rfl rfl rfl rfl ?c1 ?c2 ?c3 ?_)
    case c1 => omega
    case c2 => unfold maxLen; omega
    case c3 => exact Nat.le_refl _
    intro w1 hown0 hg
    have hb1 : Below w.heap.size w w1 := (Below.refl _ _).grown hg (Nat.le_refl _) (fun k h => by cases h)
    have ho := (Row.of_owns (K := fun _ => 0) (S := fun _ => .slice none 0 0) hown0 (fun j hj => by omega)).1
    have HO := Lib.hid (Fill.start (ts := []) ho)
    clear hown0 hg ho
    go_wp2_with fail
    go_loopw [4] (fun i wr => i = .int .i64 0 ∧ wr = w1) (fun _ _ => 0)
    case atStart => exact ⟨rfl, rfl⟩
    case round =>
      obtain ⟨rfl, rfl⟩ := hrel
      go_wp2_with fail
      go_ret
      exact ⟨_, rfl, HO.out.full (by unfold maxLen; omega), hb1⟩
  | @cons ts b o c S h1 hc hm hC hb hk hs hr ih =>
    intro w hst hn
    have hlen := nodesS_ge ts
    have HIH := Lib.hid ih
    have HST := Lib.hid hst
    have HK := Lib.hid (fun j x (e : ts[j]? = some x) (w' : World) (hw : Stays C w0 w') => (World.cell?_of_block (w := w0) (a := ⟨b, o + j * 2, none⟩) (hw.2 b hC hb)).trans (hk j x e))
    have HS := Lib.hid (fun j x (e : ts[j]? = some x) (w' : World) (hw : Stays C w0 w') => (World.cell?_of_block (w := w0) (a := ⟨b, o + j * 2 + 1, none⟩) (hw.2 b hC hb)).trans (hs j x e))
    have HF := Lib.hid (fun j x (e : ts[j]? = some x) => (hr j x e).form)
    clear hk hs hr ih hst hC hb
    go_enter Try.func47, Try.ntmps47
    go_wp2_with (at_make; refine wpList_make_full _ rfl _ _ 39 rfl w.heap.size 41 i0 (.agg #[.int .i64 0, .slice none 0 0]) 2 Try.underlying39 hi hz0 hz1 .i64 .i64 _ _ ts.length rfl rfl rfl rfl ?c1 ?c2 ?c3 ?_)
    case c1 => rw [hz2]; omega
    case c2 => unfold maxLen; omega
    case c3 => exact Nat.le_refl _
    intro w1 hown0 hg
    have hb1 : Below w.heap.size w w1 := (Below.refl _ _).grown hg (Nat.le_refl _) (fun k h => by cases h)
    have ho := (Row.of_owns (K := fun _ => 0) (S := fun _ => .slice none 0 0) hown0 (fun j hj => zeros_at _ j hj)).1
    have HO := Lib.hid (Fill.start (ts := ts) ho)
    clear hown0 hg ho
    go_wp2_with fail
    go_loopw [4] (fun i wr => ∃ k : Nat, k ≤ ts.length ∧ i = .int .i64 k ∧ Fill wr w.heap.size ts.length ts.length ts k ∧ Below w.heap.size w wr) (fun i _ => ts.length - (intOf i).toNat)
    case atStart => exact ⟨0, Nat.zero_le _, rfl, HO.out, hb1⟩
    case round =>
      obtain ⟨k, hk, rfl, hfill, hbr⟩ := hrel
      have HFI := Lib.hid hfill
      have HB := Lib.hid hbr
      have HSR := Lib.hid (HST.out.trans (Stays.of_below (C := C) hbr))
      clear hb1 hfill hbr
      by_cases hlk : k < ts.length
      · have e := List.getElem?_eq_getElem hlk
        have c1 := HK.out k _ e wr HSR.out
        have c2 := HS.out k _ e wr HSR.out
        obtain ⟨p, q, hf⟩ := HF.out k _ e
        have hnk := nodesS_at ts k hlk
        have HC := Lib.hid (toT_of ts[k].kind p ts[k].args.length q ts[k].args wr (fun w' hw' => by
          have hh := HIH.out k _ e w' (HSR.out.trans (.of_below hw')) (by omega)
          rw [hf] at hh
          exact hh))
        rw [hf] at c2
        have HE := Lib.hid e
        clear e hf hnk
        go_wp2_with fail
        refine HC.out.mono ?_
        rintro e w2 ⟨v, rfl, ⟨s, rfl, hos⟩, hb2⟩
        obtain ⟨p2, q2, hf2⟩ := hos.form
        simp only [Ty.args_mk] at hos hf2
        subst hf2
        have hlt := Nat.lt_of_lt_of_le HFI.out.lt hb2.size
        obtain ⟨hrow, hgo⟩ := HFI.out.next2 hb2 HE.out hos hlk
        obtain ⟨⟨q3, x1⟩, ⟨q4, x2⟩⟩ := hrow
        have z1 := fun i => HFI.out.frz hb2 i
        have HN := Lib.hid hgo
        have HB2 := Lib.hid (((HB.out.trans (hb2.mono HB.out.size)).setCell (p := ⟨w.heap.size, k * 2, none⟩) (Nat.le_refl _) (.int .i64 ts[k].kind)).setCell (p := ⟨w.heap.size, k * 2 + 1, none⟩) (Nat.le_refl _) (.slice p2 ts[k].args.length q2))
        clear hgo hos hb2
        go_wp2_with fail
        go_roundw
        case rel => exact ⟨k + 1, by omega, by go_num, HN.out, HB2.out⟩
        case measure => simp [intOf]; omega
      · obtain rfl : k = ts.length := by omega
        go_wp2_with fail
        go_ret
        exact ⟨_, rfl, HFI.out.full (by unfold maxLen; omega), HB.out⟩
/-- THE LAWS' toType, AT EVERY TYPE. -/
theorem toT_any {C : Nat → Prop} {t : Ty} {v : Value} {w : World} (h : TT w C t v) (hn : nodesS t.args ≤ 1048576) : Calls Try.prog 34 #[v] w (NewT t w) := by
  obtain ⟨s, rfl, h⟩ := h
  obtain ⟨p, c, rfl⟩ := h.form
  have := toT_of t.kind p t.args.length c t.args w (fun w' hb => toS_any h w' (.of_below hb) hn)
  cases t
  exact this
#print axioms toT_any
end Go.Proofs.Yteoeefmdfalnjaa
/- TyInd: Induction over a type that lies in memory; facts on a parameter's box; the figures of a type. -/
namespace Go.Proofs.Yteoeefmdfalnjaa
open Go Go.RowKit

/-- INDUCTION OVER A TYPE IN MEMORY: each part at its place, in every world that keeps the blocks. -/
theorem TS.ind {w0 : World} {C : Nat → Prop} {motive : List Ty → Value → Prop}
    (step : ∀ (ts : List Ty) (p : Option Addr) (c : Nat), ts.length ≤ 9223372036854775807 →
      (∀ (j : Nat) (x : Ty), ts[j]? = some x → ∃ (b o : Nat) (p' : Option Addr) (c' : Nat), p = some ⟨b, o, none⟩ ∧
        (∀ w', Stays C w0 w' → w'.cell? ⟨b, o + j * 2, none⟩ = some (.int .i64 x.kind) ∧ w'.cell? ⟨b, o + j * 2 + 1, none⟩ = some (.slice p' x.args.length c')) ∧
        TS w0 C x.args (.slice p' x.args.length c') ∧ motive x.args (.slice p' x.args.length c')) → motive ts (.slice p ts.length c))
    {ts : List Ty} {v : Value} (h : TS w0 C ts v) : motive ts v := by
  induction h with
  | nil a c => exact step [] a c (by simp) (fun j x hj => by simp at hj)
  | @cons ts b o c S h1 hc hm hC hb hk hs hr ih =>
    refine step ts _ c (by omega) (fun j x hj => ?_)
    obtain ⟨p', c', hf⟩ := (hr j x hj).form
    refine ⟨b, o, p', c', rfl, fun w' hw => ⟨?_, ?_⟩, hf ▸ hr j x hj, hf ▸ ih j x hj⟩
    · exact (World.cell?_of_block (w := w0) (a := ⟨b, o + j * 2, none⟩) (hw.2 b hC hb)).trans (hk j x hj)
    · rw [← hf]; exact (World.cell?_of_block (w := w0) (a := ⟨b, o + j * 2 + 1, none⟩) (hw.2 b hC hb)).trans (hs j x hj)

/-- A part of a slice of types, in every world that keeps the blocks. -/
theorem TS.at {w0 : World} {C : Nat → Prop} {ts : List Ty} {p : Option Addr} {n c : Nat} (h : TS w0 C ts (.slice p n c)) : ∀ (j : Nat) (x : Ty), ts[j]? = some x → ∃ (b o : Nat) (p' : Option Addr) (c' : Nat), p = some ⟨b, o, none⟩ ∧
    (∀ w', Stays C w0 w' → w'.cell? ⟨b, o + j * 2, none⟩ = some (.int .i64 x.kind) ∧ w'.cell? ⟨b, o + j * 2 + 1, none⟩ = some (.slice p' x.args.length c')) ∧ TS w0 C x.args (.slice p' x.args.length c') := by
  have key := TS.ind (motive := fun ts v => ∀ (p : Option Addr) (n c : Nat), v = .slice p n c → ∀ (j : Nat) (x : Ty), ts[j]? = some x → ∃ (b o : Nat) (p' : Option Addr) (c' : Nat), p = some ⟨b, o, none⟩ ∧
    (∀ w', Stays C w0 w' → w'.cell? ⟨b, o + j * 2, none⟩ = some (.int .i64 x.kind) ∧ w'.cell? ⟨b, o + j * 2 + 1, none⟩ = some (.slice p' x.args.length c')) ∧ TS w0 C x.args (.slice p' x.args.length c')) (fun ts p c _ H p2 n2 c2 e j x hj => by
      obtain ⟨b, o, p', c', hp, hc, hT, _⟩ := H j x hj
      simp only [Value.slice.injEq] at e
      exact ⟨b, o, p', c', e.1 ▸ hp, hc, hT⟩) h
  exact key p n c rfl

/-- A parameter's box in a later world. -/
theorem box_blk (w w' : World) (A : Array Value) (t : TypeId) (h : Below (w.alloc (.cells A t)).heap.size (w.alloc (.cells A t)) w') : w'.heap[w.heap.size]? = some (.cells A t (0, 0)) := by
  rw [h.block _ (by simp)]
  exact blk_new _ _
theorem box2 {w w' : World} {a b : Value} {t : TypeId} (h : Below (w.alloc (.cells #[a, b] t)).heap.size (w.alloc (.cells #[a, b] t)) w') : w'.cell? ⟨w.heap.size, 0, none⟩ = some a ∧ w'.cell? ⟨w.heap.size, 1, none⟩ = some b := by
  have hb := box_blk _ _ _ _ h
  exact ⟨cell_of_blk hb 0, cell_of_blk hb 1⟩
theorem below_box {w w' : World} {A : Array Value} {t : TypeId} (h : Below (w.alloc (.cells A t)).heap.size (w.alloc (.cells A t)) w') : Below w.heap.size w w' :=
  ((Below.refl w.heap.size w).alloc (Nat.le_refl _) _).trans (h.mono (by simp))

mutual
def Ty.depth : Ty → Nat
  | .mk _ ts => 1 + depthS ts
def depthS : List Ty → Nat
  | [] => 0
  | t :: ts => max t.depth (depthS ts)
end
mutual
/-- Every node has one of the four kinds with its number of parts. -/
def Ty.form : Ty → Bool
  | .mk k ts => formS ts && (if k = 1 ∨ k = 2 then ts.length == 0 else if k = 3 then ts.length == 2 else k == 4 && ts.length == 1)
def formS : List Ty → Bool
  | [] => true
  | t :: ts => t.form && formS ts
end
mutual
def Ty.has (q : Int) : Ty → Bool
  | .mk k ts => hasS q ts || k == q
def hasS (q : Int) : List Ty → Bool
  | [] => false
  | t :: ts => t.has q || hasS q ts
end
theorem depthS_append (a b : List Ty) : depthS (a ++ b) = max (depthS a) (depthS b) := by
  induction a with
  | nil => simp [depthS]
  | cons x a ih => simp only [List.cons_append, depthS, ih]; omega
theorem formS_append (a b : List Ty) : formS (a ++ b) = (formS a && formS b) := by
  induction a with
  | nil => simp [formS]
  | cons x a ih => simp [formS, ih, Bool.and_assoc]
theorem hasS_append (q : Int) (a b : List Ty) : hasS q (a ++ b) = (hasS q a || hasS q b) := by
  induction a with
  | nil => simp [hasS]
  | cons x a ih => simp [hasS, ih, Bool.or_assoc]
theorem take_next {ts : List Ty} {k : Nat} (h : k < ts.length) : ts.take (k + 1) = ts.take k ++ [ts[k]] := by
  rw [List.take_add_one, List.getElem?_eq_getElem h]; rfl
theorem Ty.eta (t : Ty) : t = .mk t.kind t.args := by cases t; rfl
theorem depth_at (t : Ty) : t.depth = 1 + depthS t.args := by cases t; simp [Ty.depth]
theorem Ty.has_at (q : Int) (t : Ty) : t.has q = (hasS q t.args || t.kind == q) := by cases t; simp [Ty.has]
theorem depth_le (ts : List Ty) (h : ∀ t ∈ ts, t.depth ≤ t.nodes) : depthS ts ≤ nodesS ts := by
  induction ts with
  | nil => simp [depthS]
  | cons t ts ih =>
    have h1 := h t (List.mem_cons_self ..)
    have h2 := ih (fun u hu => h u (List.mem_cons_of_mem _ hu))
    simp only [depthS, nodesS]
    omega
theorem Ty.depth_nodes : ∀ t : Ty, t.depth ≤ t.nodes
  | .mk k ts => by
    have := depth_le ts (fun t _ => Ty.depth_nodes t)
    simp only [Ty.depth, Ty.nodes]
    omega
theorem depthS_nodes (ts : List Ty) : depthS ts ≤ nodesS ts := depth_le ts (fun t _ => t.depth_nodes)
theorem nodesS_take_next (ts : List Ty) (k : Nat) (h : k < ts.length) : nodesS (ts.take (k + 1)) = nodesS (ts.take k) + ts[k].nodes := by
  rw [take_next h, nodesS_append]; simp [nodesS]
theorem depthS_take_next (ts : List Ty) (k : Nat) (h : k < ts.length) : depthS (ts.take (k + 1)) = max (depthS (ts.take k)) ts[k].depth := by
  rw [take_next h, depthS_append]; simp [depthS]
theorem depthS_at (ts : List Ty) (k : Nat) (h : k < ts.length) : depthS (ts.take k) ≤ 2097152 ∧ ts[k].depth ≤ 2097152 ∨ 2097152 < nodesS ts := by
  have h1 := depthS_nodes (ts.take k)
  have h2 := ts[k].depth_nodes
  have h3 := nodesS_take_next ts k h
  have h4 := nodesS_take_le ts (k + 1)
  omega
end Go.Proofs.Yteoeefmdfalnjaa
/- OpenT: An argument that is a type, opened: the tree that it reads as. -/
namespace Go.Proofs.Yteoeefmdfalnjaa
open Go Go.ChangeShapes Go.WideShapes Go.RowKit

theorem cells_ty : Try.prog.cellsOf 35 = 2 := by kernel_rfl
theorem cells_str : Try.prog.cellsOf 9 = 1 := by kernel_rfl
theorem cells_int : Try.prog.cellsOf 3 = 1 := by kernel_rfl
theorem cells_sl : Try.prog.cellsOf 33 = 1 := by kernel_rfl

section
variable {H : Type} {enc : TypeId × Value → H} {w : World} {spare : Nat → Bool} {held : Bool}

theorem cell_of_cells2 {a : Addr} {cs : List Value} {base i : Nat} (h : w.cells? base (a.add (i * 2)) 2 = some cs) : ∃ u v, cs = [u, v] ∧ w.cell? (a.add (i * 2)) = some u ∧ w.cell? (a.add (i * 2 + 1)) = some v := by
  unfold World.cells? at h
  split at h
  · have e : (List.range 2) = [0, 1] := rfl
    rw [e] at h
    simp only [List.mapM_cons, List.mapM_nil, Option.bind_eq_bind, Option.bind_eq_some_iff, Option.pure_def, Option.some.injEq] at h
    obtain ⟨u, hu, l, ⟨v, hv, l', rfl, rfl⟩, rfl⟩ := h
    rw [Go.Deep.add_add] at hu hv
    exact ⟨u, v, rfl, hu, hv⟩
  · cases h

set_option maxRecDepth 100000 in
/-- What a type's two cells read as; what a slice of types reads as. -/
theorem open_ty : ∀ (fuel : Nat), (∀ (cs : List Value) (x : DataW H × List MemPlace), DataW.trod enc Try.prog w 0 spare held fuel 35 cs = some x → ∃ (k : Int) (s : Value) (ts : List Ty), cs = [.int .i64 k, s] ∧ TS w (fun _ => True) ts s) ∧
    (∀ (cs : List Value) (x : DataW H × List MemPlace), DataW.trod enc Try.prog w 0 spare held fuel 33 cs = some x → ∃ (s : Value) (ts : List Ty), cs = [s] ∧ TS w (fun _ => True) ts s) := by
  intro fuel
  induction fuel using Nat.strongRecOn with
  | _ fuel IH =>
    constructor
    · intro cs x h
      obtain ⟨xs, n, hn, _, hl, hlen, hf⟩ := DataW.trod_struct Try.underlying35 h
      rw [cells_ty] at hl
      have g0 : DataW.trod enc Try.prog w 0 spare held n 3 ((cs.drop 0).take (Try.prog.cellsOf 3)) = xs[0]? := hf 0 _ rfl
      have g1 : DataW.trod enc Try.prog w 0 spare held n 33 ((cs.drop 1).take (Try.prog.cellsOf 33)) = xs[1]? := hf 1 _ rfl
      rw [cells_int] at g0
      rw [cells_sl] at g1
      match cs, hl, xs, hlen with
      | [c0, c1], _, [y0, y1], _ =>
        obtain ⟨k, hk, _, _⟩ := DataW.trod_int Try.underlying3 g0
        obtain ⟨s, ts, hs, ht⟩ := (IH n (by omega)).2 _ _ g1
        simp at hk hs
        subst hk hs
        exact ⟨k, _, ts, rfl, ht⟩
    · intro cs x h
      rcases DataW.trod_slice Try.underlying33 h with ⟨rfl, _⟩ | ⟨a, len, cap, elems, rest, n, hn, rfl, _, _, hl, hm, hlen, hel, _, _⟩
      · exact ⟨_, [], rfl, .nil _ _⟩
      · by_cases h0 : len = 0
        · subst h0
          exact ⟨_, [], rfl, .nil _ _⟩
        rw [cells_ty] at hel
        have each : ∀ i, i < len → ∃ z : Int × Value × List Ty, w.cell? (a.add (i * 2)) = some (.int .i64 z.1) ∧ w.cell? (a.add (i * 2 + 1)) = some z.2.1 ∧ TS w (fun _ => True) z.2.2 z.2.1 := by
          intro i hi
          have hb := hel i hi
          rw [List.getElem?_eq_getElem (by omega), Option.bind_eq_some_iff] at hb
          obtain ⟨cs', hcs, ht⟩ := hb
          obtain ⟨k, s, ts, rfl, hT⟩ := (IH n (by omega)).1 _ _ ht
          obtain ⟨u, v, huv, hu, hv⟩ := cell_of_cells2 hcs
          simp only [List.cons.injEq, and_true] at huv
          obtain ⟨rfl, rfl⟩ := huv
          exact ⟨(k, s, ts), hu, hv, hT⟩
        obtain ⟨f, hf⟩ := Go.Deep.choose_lt (α := Int × Value × List Ty) each
        have hspot : a.spot = none := by simpa [Addr.add] using World.cell?_spot (hf 0 (by omega)).1
        obtain ⟨b, o, sp⟩ := a
        simp only at hspot
        subst hspot
        simp only [Go.WideShapes.add_plain] at hf
        have hb : b < w.heap.size := World.block_lt_of_cell? w _ (hf 0 (by omega)).1
        have hlen2 : ((List.range len).map fun i => Ty.mk (f i).1 (f i).2.2).length = len := by simp
        have at_ : ∀ j x, ((List.range len).map fun i => Ty.mk (f i).1 (f i).2.2)[j]? = some x → j < len ∧ x = Ty.mk (f j).1 (f j).2.2 := by
          intro j x hj
          have hlt := (List.getElem?_eq_some_iff.1 hj).1
          rw [hlen2] at hlt
          simp [hlt] at hj
          exact ⟨hlt, hj.symm⟩
        refine ⟨_, (List.range len).map fun i => Ty.mk (f i).1 (f i).2.2, rfl, ?_⟩
        have key := TS.cons (w := w) (C := fun _ => True) (ts := (List.range len).map fun i => Ty.mk (f i).1 (f i).2.2) (b := b) (o := o) (c := cap) (fun j => (f j).2.1) (by omega) (by omega) (by unfold maxLen at hm; omega) trivial hb
          (fun j x hj => by
            obtain ⟨hlt, rfl⟩ := at_ j x hj
            exact (hf j hlt).1)
          (fun j x hj => by
            obtain ⟨hlt, rfl⟩ := at_ j x hj
            exact (hf j hlt).2.1)
          (fun j x hj => by
            obtain ⟨hlt, rfl⟩ := at_ j x hj
            exact (hf j hlt).2.2)
        rw [hlen2] at key
        exact key
end

set_option maxRecDepth 100000 in
/-- THE ARGUMENT OPENED. -/
theorem open_type {H : Type} {enc : TypeId × Value → H} {W : World} {spare : Nat → Bool} {held : Bool} {r : Reach} {b0 : Nat} {v : Value} {d : DataW H} {p : List MemPlace}
    (hv : Value.okWide Try.prog W r b0 35 v) (h : DataW.Trod enc Try.prog W 0 spare held 35 v d p) : ∃ t : Ty, TT W (fun _ => True) t v := by
  obtain ⟨cs, rfl, hsz⟩ := okWide_struct Try.underlying35 hv
  obtain ⟨fuel, hf⟩ := h
  obtain ⟨k, s, ts, hcs, ht⟩ := (open_ty fuel).1 _ _ hf
  have hcs' : cs = #[.int .i64 k, s] := by
    have : cs.toList = [.int .i64 k, s] := hcs
    exact Array.toList_inj.1 this
  subst hcs'
  exact ⟨.mk k ts, s, rfl, ht⟩
end Go.Proofs.Yteoeefmdfalnjaa
/- RowN: A row of the call's own, of whatever element: shrunk, appended to (where it lies afterwards is told), kept. Of no program. -/
namespace Go.Proofs.Yteoeefmdfalnjaa
open Go Go.RowKit

section
variable {w w' : World} {base size n : Nat} {e : TypeId} {v : Value} {xs : List Value}

theorem row_below (h : w.ownsRow base e size v n xs) (hb : Below w.heap.size w w') : w'.ownsRow base e size v n xs := by
  refine ⟨h.1, ?_⟩
  rcases h.2 with h0 | ⟨g, cap, cur, rfl, hg, hblk, r⟩
  · exact Or.inl h0
  · exact Or.inr ⟨g, cap, cur, rfl, hg, (hb.block g (h.lt g rfl).2).trans hblk, r⟩
theorem row_of_block {g cap : Nat} (h : w.ownsRow base e size (.slice (some ⟨g, 0, none⟩) n cap) n xs) (hb : w'.heap[g]? = w.heap[g]?) : w'.ownsRow base e size (.slice (some ⟨g, 0, none⟩) n cap) n xs := by
  refine ⟨h.1, ?_⟩
  rcases h.2 with h0 | ⟨g', cap', cur, hv, hg, hblk, r⟩
  · exact Or.inl h0
  · simp only [Value.slice.injEq, Option.some.injEq, Addr.mk.injEq, true_and, and_true] at hv
    obtain ⟨rfl, rfl⟩ := hv
    exact Or.inr ⟨g, cap, cur, rfl, hg, hb.trans hblk, r⟩
theorem row_cap {g cap : Nat} (h : w.ownsRow base e size (.slice (some ⟨g, 0, none⟩) n cap) n xs) : n ≤ cap ∧ cap ≤ maxLen ∧ base ≤ g ∧ g < w.heap.size := by
  have hl := h.lt g rfl
  rcases h.2 with h0 | ⟨g', cap', cur, hv, hg, hblk, h1, h2, _⟩
  · exact absurd h0.1 (by simp)
  · simp only [Value.slice.injEq, Option.some.injEq, Addr.mk.injEq, true_and, and_true] at hv
    obtain ⟨rfl, rfl⟩ := hv
    exact ⟨h1, h2, hg, hl.2⟩
theorem row_take {g cap m : Nat} (h : w.ownsRow base e size (.slice (some ⟨g, 0, none⟩) n cap) n xs) (hm : m ≤ n) : w.ownsRow base e size (.slice (some ⟨g, 0, none⟩) m cap) m (xs.take (m * size)) := by
  have hle : m * size ≤ n * size := Nat.mul_le_mul_right _ hm
  refine ⟨by rw [List.length_take, h.1]; omega, ?_⟩
  rcases h.2 with h0 | ⟨g', cap', cur, hv, hg, hblk, h1, h2, h3, h4⟩
  · exact absurd h0.1 (by simp)
  · simp only [Value.slice.injEq, Option.some.injEq, Addr.mk.injEq, true_and, and_true] at hv
    obtain ⟨rfl, rfl⟩ := hv
    exact Or.inr ⟨g, cap, cur, rfl, hg, hblk, Nat.le_trans hm h1, h2, h3, by rw [← h4, List.take_take, Nat.min_eq_left hle]⟩
end

/-- An append: what it yields, and where the row lies afterwards: where it lay, or in a new block. -/
theorem run_app {P : Program} {w : World} (base : Nat) (t ty e : TypeId) (i : TypeInfo) (z : Value) (size bytes : Nat) (ht : P.underlying t = some (.slice e)) (hi : P.info? e = some i) (hz : i.zero = some z)
    (hsize : i.size = size) (hby : i.bytes = bytes) (hzs : z.cells.size = size) (hsz : 0 < size)
    (v : Value) (n : Nat) (xs : List Value) (hown : w.ownsRow base e size v n xs)
    (a : Addr) (m c : Nat) (news : List Value) (hl : news.length = m * size) (hnews : ∀ j u, news[j]? = some u → w.cell? (a.add j) = some u) (h1 : ∀ u ∈ news, u.oneCell' = true)
    (h63 : n + m ≤ maxLen) (hbytes : (n + m) * bytes ≤ 140737488355328) (hbase : base ≤ w.heap.size) :
    ∃ v' w', (Builtin.append_ #[t, t] ty #[v, .slice (some a) m c]).run P w = .ok v' w' ∧ w'.ownsRow base e size v' (n + m) (xs ++ news) ∧ w.grownBy w' v.ownBlock ∧
      ∀ g, v'.ownBlock = some g → v.ownBlock = some g ∨ w.heap.size ≤ g := by
  rcases hown.2 with ⟨rfl, rfl⟩ | ⟨g, cap, cur, rfl, hbg, hg, hnc, hcm, hcs, htake⟩
  · have hx : xs = [] := List.eq_nil_of_length_eq_zero (by simpa using hown.1)
    subst hx
    obtain ⟨v', w', hr, ho, hgr, _⟩ := run_append_own (P := P) w w.heap.size t ty e i z size bytes ht hi hz hsize hby hzs hsz _ 0 [] (World.ownsRow_nil w _ e size) a m c news hl hnews h1 h63 hbytes (Nat.le_refl _)
    exact ⟨v', w', hr, ⟨ho.1, ho.2.elim Or.inl (fun ⟨g, cap, cur, hv, hb, r⟩ => Or.inr ⟨g, cap, cur, hv, Nat.le_trans hbase hb, r⟩)⟩, hgr, fun g hg => Or.inr (ho.lt g hg).1⟩
  · by_cases hroom : n + m ≤ cap
    · obtain ⟨w', hr, ho, hgr⟩ := run_append_fits (P := P) w base t ty e i size ht hi hsize g n cap xs hown a m c news hl hnews h1 hroom
      exact ⟨_, w', hr, ho, hgr, fun k hk => Or.inl hk⟩
    · have holds : ∀ j u, xs[j]? = some u → w.cell? ((⟨g, 0, none⟩ : Addr).add j) = some u := hown.cells (g := g) rfl
      obtain ⟨v', w', hr, ho, hgr⟩ := run_append_arg_grows (P := P) w t ty e i z size bytes ht hi hz hsize hby hzs hsz ⟨g, 0, none⟩ n cap xs hown.1 holds a m c news hl hnews (by omega) h63 hbytes
      exact ⟨v', w', hr, ⟨ho.1, ho.2.elim Or.inl (fun ⟨g, cap, cur, hv, hb, r⟩ => Or.inr ⟨g, cap, cur, hv, Nat.le_trans hbase hb, r⟩)⟩, ⟨hgr.os, hgr.tape, hgr.output, hgr.size, fun k hk _ => hgr.block k hk (by simp)⟩, fun k hk => Or.inr (ho.lt k hk).1⟩

/-- One element behind: v' is the row afterwards; every block that was there and is not the row's stays as it was, and the row is none of them. -/
structure Appd (w0 w' : World) (base : Nat) (e : TypeId) (size : Nat) (v : Value) (n : Nat) (xs cs : List Value) (g cap : Nat) : Prop where
  own : w'.ownsRow base e size (.slice (some ⟨g, 0, none⟩) (n + 1) cap) (n + 1) (xs ++ cs)
  below : Below base w0 w'
  size : w0.heap.size ≤ w'.heap.size
  kept : ∀ b, b < w0.heap.size → v.ownBlock ≠ some b → w'.heap[b]? = w0.heap[b]? ∧ g ≠ b

section
variable {P : Program} {w0 : World} {base : Nat} {t e : TypeId} {i : TypeInfo} {z : Value} {size bytes : Nat} {v : Value} {n : Nat} {xs cs : List Value}

theorem run_app1 (ty : TypeId) (ht : P.underlying t = some (.slice e)) (hi : P.info? e = some i) (hz : i.zero = some z) (hsize : i.size = size) (hby : i.bytes = bytes) (hzs : z.cells.size = size) (hsz : 0 < size)
    (hown : w0.ownsRow base e size v n xs) (hl : cs.length = size) (h1 : ∀ u ∈ cs, u.oneCell' = true) (h63 : n + 1 ≤ maxLen) (hbytes : (n + 1) * bytes ≤ 140737488355328) (hbase : base ≤ w0.heap.size) :
    ∃ w' g cap, (Builtin.append_ #[t, t] ty #[v, .slice (some ⟨w0.heap.size, 0, none⟩) 1 1]).run P (w0.alloc (.cells cs.toArray e)) = .ok (.slice (some ⟨g, 0, none⟩) (n + 1) cap) w' ∧ Appd w0 w' base e size v n xs cs g cap := by
  have hb0 := (Below.refl w0.heap.size w0).alloc (Nat.le_refl _) (.cells cs.toArray e)
  have hown1 := row_below hown hb0
  have hnews : ∀ j u, cs[j]? = some u → (w0.alloc (.cells cs.toArray e)).cell? ((⟨w0.heap.size, 0, none⟩ : Addr).add j) = some u := by
    intro j u hj
    have e1 : ((⟨w0.heap.size, 0, none⟩ : Addr).add j) = ⟨w0.heap.size, j, none⟩ := by unfold Addr.add; split <;> simp_all
    rw [e1, World.cell?_alloc_mark]
    simpa using hj
  obtain ⟨v', w', hr, ho, hg, hwhere⟩ := run_app (P := P) base t ty e i z size bytes ht hi hz hsize hby hzs hsz v n xs hown1 ⟨w0.heap.size, 0, none⟩ 1 1 cs (by omega) hnews h1 h63 hbytes (by simp; omega)
  have hs1 := hg.size
  rw [World.size_alloc] at hs1
  rcases ho.2 with ⟨_, h0⟩ | ⟨g, cap, cur, rfl, hbg, _⟩
  · omega
  · refine ⟨w', g, cap, hr, ho, (((Below.refl base w0).alloc hbase _).grown hg (by simp; omega) (fun k hk => (hown1.lt k hk).1)), by omega, fun b hb hne => ⟨?_, ?_⟩⟩
    · rw [hg.block b (by simp; omega) (fun e => hne e.symm), Below.heap_alloc _ _ _ hb]
    · rintro rfl
      rcases hwhere g rfl with h | h
      · exact hne h
      · simp at h; omega

/-- .. at the operation. -/
theorem wpList_app1 {ops : Array Oper} {rest : List Oper} {o : Oper} {a : Act} {Q : Exit → Act → World → Prop} (hgd : o.guard = none) (s x : Operand)
    (ho : o.op = .call { callee := .builtin .append, args := #[s, x], argTypes := #[t, t] }) (ht : P.underlying t = some (.slice e)) (hi : P.info? e = some i) (hz : i.zero = some z) (hsize : i.size = size) (hby : i.bytes = bytes) (hzs : z.cells.size = size) (hsz : 0 < size)
    (hs : a.eval s = v) (hown : w0.ownsRow base e size v n xs) (bk : Nat) (hx : a.eval x = .slice (some ⟨bk, 0, none⟩) 1 1) (hbk : bk = w0.heap.size) (hl : cs.length = size) (h1 : ∀ u ∈ cs, u.oneCell' = true) (h63 : n + 1 ≤ maxLen) (hbytes : (n + 1) * bytes ≤ 140737488355328) (hbase : base ≤ w0.heap.size)
    (h : ∀ w' g cap, Appd w0 w' base e size v n xs cs g cap → wpList P ops Q rest (a.put o.dst (.slice (some ⟨g, 0, none⟩) (n + 1) cap)) w') :
    wpList P ops Q (o :: rest) a (w0.alloc (.cells cs.toArray e)) := by
  subst hbk
  refine wpList_plain hgd fun K hK => ?_
  obtain ⟨w', g, cap, hrun, hA⟩ := run_app1 (P := P) o.type ht hi hz hsize hby hzs hsz hown hl h1 h63 hbytes hbase
  unfold Oper.wp
  simp [execOp, ho, resolve, invoke, builtin, hs, hx, hrun, Result.andThen]
  exact hK _ _ (h w' g cap hA)
theorem wpListIn_app1 {F : Fence} {m : Nat} {ops : Array Oper} {rest : List Oper} {o : Oper} {a : Act} {Q : Exit → Act → World → Prop} (hgd : o.guard = none) (s x : Operand)
    (ho : o.op = .call { callee := .builtin .append, args := #[s, x], argTypes := #[t, t] }) (ht : P.underlying t = some (.slice e)) (hi : P.info? e = some i) (hz : i.zero = some z) (hsize : i.size = size) (hby : i.bytes = bytes) (hzs : z.cells.size = size) (hsz : 0 < size)
    (hs : a.eval s = v) (hown : w0.ownsRow base e size v n xs) (bk : Nat) (hx : a.eval x = .slice (some ⟨bk, 0, none⟩) 1 1) (hbk : bk = w0.heap.size) (hl : cs.length = size) (h1 : ∀ u ∈ cs, u.oneCell' = true) (h63 : n + 1 ≤ maxLen) (hbytes : (n + 1) * bytes ≤ 140737488355328) (hbase : base ≤ w0.heap.size)
    (h : ∀ w' g cap, Appd w0 w' base e size v n xs cs g cap → wpListIn F m P ops Q rest (a.put o.dst (.slice (some ⟨g, 0, none⟩) (n + 1) cap)) w') :
    wpListIn F m P ops Q (o :: rest) a (w0.alloc (.cells cs.toArray e)) := by
  subst hbk
  refine wpListIn_plain hgd fun K hK => ?_
  obtain ⟨w', g, cap, hrun, hA⟩ := run_app1 (P := P) o.type ht hi hz hsize hby hzs hsz hown hl h1 h63 hbytes hbase
  unfold Oper.wpIn
  refine ⟨by simp [Oper.about, ho, resolve, Target.leads, Sem.run_pure], ?_⟩
  rw [Oper.semAt_plain F _ _ (by rw [ho]; intro c hc'; cases hc')]
  simp [execOp, ho, resolve, invoke, builtin, hs, hx, hrun, Result.andThen]
  exact hK _ _ (h w' g cap hA)
/-- .. as a step of a region that draws its order. -/
theorem step_app1 {ops : Array Oper} {o : Oper} {a : Act} {K : Act → World → Prop} {Q : Exit → Act → World → Prop} {E : Prop} (hgd : o.guard = none) (s x : Operand)
    (ho : o.op = .call { callee := .builtin .append, args := #[s, x], argTypes := #[t, t] }) (ht : P.underlying t = some (.slice e)) (hi : P.info? e = some i) (hz : i.zero = some z) (hsize : i.size = size) (hby : i.bytes = bytes) (hzs : z.cells.size = size) (hsz : 0 < size)
    (hs : a.eval s = v) (hown : w0.ownsRow base e size v n xs) (bk : Nat) (hx : a.eval x = .slice (some ⟨bk, 0, none⟩) 1 1) (hbk : bk = w0.heap.size) (hl : cs.length = size) (h1 : ∀ u ∈ cs, u.oneCell' = true) (h63 : n + 1 ≤ maxLen) (hbytes : (n + 1) * bytes ≤ 140737488355328) (hbase : base ≤ w0.heap.size)
    (h : ∀ w' g cap, Appd w0 w' base e size v n xs cs g cap → K (a.put o.dst (.slice (some ⟨g, 0, none⟩) (n + 1) cap)) w') :
    if Region.wanted o (yielded ops a.tmps) = true then Oper.wp P o a (w0.alloc (.cells cs.toArray e)) K Q else E := by
  subst hbk
  have hw : Region.wanted o (yielded ops a.tmps) = true := by simp [Region.wanted, hgd]
  rw [if_pos hw]
  obtain ⟨w', g, cap, hrun, hA⟩ := run_app1 (P := P) o.type ht hi hz hsize hby hzs hsz hown hl h1 h63 hbytes hbase
  unfold Oper.wp
  simp [execOp, ho, resolve, invoke, builtin, hs, hx, hrun, Result.andThen]
  exact h w' g cap hA
end
end Go.Proofs.Yteoeefmdfalnjaa
