/-
  Several texts of the proof in one (each says below what it holds): TyCopy TyInd SpecTy SpecTy2 TmSpec Reduce Apply StrEq IsName TmNode.
-/
import Derived.Test.YtnciibngcaajgaaDoorH1
import Derived.Test.YtnciibngcaajgaaDoorH2
import Derived.Test.YtnciibngcaajgaaDoorProg
import Derived.WalkSmall
import Derived.Laws.Strings
import Derived.Laws.RangeAny
import Derived.LoopTactic
/- TyCopy: The contract of the laws' toTypeS and toType: the same type, in rows of the call's own. -/
namespace Go.Proofs.YtnciibngcaajgaaDoor
open Go Go.RowKit

/-- A new type: the same as t, in blocks that were not there. -/
def NewT (t : Ty) (w : World) (e : Ending) (w' : World) : Prop := ∃ v, e = .returned v ∧ OT w' t v (fun g => w.heap.size ≤ g ∧ g < w'.heap.size) ∧ Below w.heap.size w w'
def NewTS (ts : List Ty) (w : World) (e : Ending) (w' : World) : Prop := ∃ v, e = .returned v ∧ OS w' ts v (fun g => w.heap.size ≤ g ∧ g < w'.heap.size) ∧ Below w.heap.size w w'

theorem blk_new (w : World) (o : Obj) : (w.alloc o).heap[w.heap.size]? = some o := by
  show (w.heap.push o)[w.heap.size]? = _
  simp
theorem results_cell1 {fn : Func} {p : Tmp} {ty : TypeId} (h : fn.results = #[.cell p ty]) (tmps : Array Value) (P : Program) (w : World) :
    (results fn tmps).run P w = ((asAddr (tmps.getD p undef)).run P w).andThen fun a w₁ => (loadVar ty a).run P w₁ := by
  simp only [results, h]
  simp [Sem.run_bind, Result.andThen]

theorem blocks3 (w w1 : World) (A B C : Array Value) (tA tB tC : TypeId) (h : Below (((w.alloc (.cells A tA)).alloc (.cells B tB)).alloc (.cells C tC)).heap.size (((w.alloc (.cells A tA)).alloc (.cells B tB)).alloc (.cells C tC)) w1) :
    w1.heap[w.heap.size + 1]? = some (.cells B tB (0, 0)) ∧ w1.heap[w.heap.size + 1 + 1]? = some (.cells C tC (0, 0)) := by
  have s1 : (w.alloc (.cells A tA)).heap.size = w.heap.size + 1 := by simp
  have s2 : ((w.alloc (.cells A tA)).alloc (.cells B tB)).heap.size = w.heap.size + 1 + 1 := by simp
  constructor
  · rw [h.block _ (by simp), Below.heap_alloc _ _ _ (by simp), ← s1]
    exact blk_new _ _
  · rw [h.block _ (by simp), ← s2]
    exact blk_new _ _
theorem cell_of_blk {w : World} {g : Nat} {cs : Array Value} {t : TypeId} {fr : Nat × Nat} (h : w.heap[g]? = some (.cells cs t fr)) (i : Nat) : w.cell? ⟨g, i, none⟩ = cs[i]? := by simp [World.cell?, h]
theorem unfrozen_of_blk {w : World} {g : Nat} {cs : Array Value} {t : TypeId} (h : w.heap[g]? = some (.cells cs t (0, 0))) (i : Nat) : w.frozen? ⟨g, i, none⟩ = false := by simp [World.frozen?, h]

theorem newT_done {k : Int} {ts : List Ty} {w W w1 : World} {n q : Nat} {p : Option Addr} {i1 i2 i3 : Nat} {v1 v2 v3 : Value} (ho : OS w1 ts (.slice p n q) (fun g => W.heap.size ≤ g ∧ g < w1.heap.size)) (hb : Below w.heap.size w w1)
    (hW : w.heap.size + 1 + 1 < W.heap.size) :
    NewT (.mk k ts) w (.returned (.agg #[.int .i64 k, .slice p n q])) (((w1.setCell ⟨w.heap.size + 1 + 1, i1, none⟩ v1).setCell ⟨w.heap.size + 1, i2, none⟩ v2).setCell ⟨w.heap.size + 1, i3, none⟩ v3) := by
  have hs : (((w1.setCell ⟨w.heap.size + 1 + 1, i1, none⟩ v1).setCell ⟨w.heap.size + 1, i2, none⟩ v2).setCell ⟨w.heap.size + 1, i3, none⟩ v3).heap.size = w1.heap.size := by simp [World.setCell]
  refine ⟨_, rfl, ⟨_, rfl, OS.mono (ho.stays (((setCell_stays _ _ _ _ _ (by omega)).trans (setCell_stays _ _ _ _ _ (by omega))).trans (setCell_stays _ _ _ _ _ (by omega)))) (fun b hb => ?_)⟩, ((hb.setCell (p := ⟨w.heap.size + 1 + 1, i1, none⟩) (by show w.heap.size ≤ w.heap.size + 1 + 1; omega) _).setCell (p := ⟨w.heap.size + 1, i2, none⟩) (by show w.heap.size ≤ w.heap.size + 1; omega) _).setCell (p := ⟨w.heap.size + 1, i3, none⟩) (by show w.heap.size ≤ w.heap.size + 1; omega) _⟩
  rw [hs]
  omega

set_option maxRecDepth 100000 in
set_option maxHeartbeats 1000000 in
theorem toT_of (k : Int) (p : Option Addr) (l c : Nat) (ts : List Ty) (w : World)
    (h : ∀ w', Below w.heap.size w w' → Calls Tryd.prog 67 #[.slice p l c] w' (NewTS ts w')) :
    Calls Tryd.prog 44 #[.agg #[.int .i64 k, .slice p l c]] w (NewT (.mk k ts) w) := by
  have HH := Lib.hid h
  have HB := Lib.hid ((((Below.refl w.heap.size w).alloc (Nat.le_refl _) (Obj.cells #[.int .i64 k, .slice p l c] 40)).alloc (by simp) (Obj.cells #[.int .i64 0, .slice none 0 0] 26)).alloc (by simp; omega) (Obj.cells #[.int .i64 k, .slice none 0 0] 26))
  clear h
  go_enter Tryd.func44, Tryd.ntmps44
  go_wp2_with fail
  refine (HH.out _ HB.out).mono ?_
  rintro e w1 ⟨s, rfl, ho, hb1⟩
  obtain ⟨b1, b2⟩ := blocks3 _ _ _ _ _ _ _ _ hb1
  have c10 := cell_of_blk b1 0
  have c11 := cell_of_blk b1 1
  have c20 := cell_of_blk b2 0
  have c21 := cell_of_blk b2 1
  have z1 := unfrozen_of_blk b1
  have z2 := unfrozen_of_blk b2
  simp only [List.getElem?_toArray, List.getElem?_cons_zero, List.getElem?_cons_succ] at c10 c11 c20 c21
  obtain ⟨p', q', hf⟩ := ho.form
  subst hf
  have HO := Lib.hid ho
  have HB1 := Lib.hid (HB.out.trans (hb1.mono HB.out.size))
  clear ho hb1 b1 b2
  go_wp2_with fail
  refine bodyPost_ret (v := .agg #[.int .i64 k, .slice p' ts.length q']) ?_ rfl ?_
  · rw [results_cell1 rfl]
    go_simp
  · exact newT_done HO.out HB1.out (by simp)

/-- The zero type, as often as is asked. -/
theorem zeros_at (n j : Nat) (h : j < n) : (madeCells (#[Value.int .i64 0, Value.slice none 0 0]) (n * 2)).toList[j * 2]? = some (.int .i64 0) ∧ (madeCells (#[Value.int .i64 0, Value.slice none 0 0]) (n * 2)).toList[j * 2 + 1]? = some (.slice none 0 0) := by
  have h1 : j * 2 < n * 2 := by omega
  have h2 : j * 2 + 1 < n * 2 := by omega
  have e2 : (j * 2 + 1) % 2 = 1 := by omega
  constructor
  · simp [madeCells, h1]
  · simp [madeCells, h2, e2]

set_option maxRecDepth 100000 in
set_option maxHeartbeats 1000000 in
theorem toS_any {w0 : World} {C : Nat → Prop} {ts : List Ty} {v : Value} (h : TS w0 C ts v) : ∀ (w : World), Stays C w0 w → nodesS ts ≤ 1048576 →
    Calls Tryd.prog 67 #[v] w (NewTS ts w) := by
  obtain ⟨i0, hi, hz0, hz1, hz2⟩ := info_parts infoTy
  induction h with
  | nil a c =>
    intro w hst hn
    go_enter Tryd.func67, Tryd.ntmps67
    go_wp2_with (at_make; refine wpList_make_full _ rfl _ _ 24 rfl w.heap.size 26 i0 (.agg #[.int .i64 0, .slice none 0 0]) 2 Tryd.underlying24 hi hz0 hz1 .i64 .i64 _ _ 0 rfl rfl rfl rfl ?c1 ?c2 ?c3 ?_)
    case c1 => omega
    case c2 => unfold maxLen; omega
    case c3 => exact Nat.le_refl _
    intro w1 hown0 hg
    have hb1 : Below w.heap.size w w1 := (Below.refl _ _).grown hg (Nat.le_refl _) (fun k h => by cases h)
    have ho := (Row.of_owns (K := fun _ => 0) (S := fun _ => .slice none 0 0) hown0 (fun j hj => by omega)).1
    have HO := Lib.hid (Fill.start (ts := []) ho)
    clear hown0 hg ho
    go_wp2_with fail
    go_loopw [4] (fun i wr => i = .int .i64 0 ∧ wr = w1) (fun _ _ => 0)
    case atStart => exact ⟨rfl, rfl⟩
    case round =>
      obtain ⟨rfl, rfl⟩ := hrel
      go_wp2_with fail
      go_ret
      exact ⟨_, rfl, HO.out.full (by unfold maxLen; omega), hb1⟩
  | @cons ts b o c S h1 hc hm hC hb hk hs hr ih =>
    intro w hst hn
    have hlen := nodesS_ge ts
    have HIH := Lib.hid ih
    have HST := Lib.hid hst
    have HK := Lib.hid (fun j x (e : ts[j]? = some x) (w' : World) (hw : Stays C w0 w') => (World.cell?_of_block (w := w0) (a := ⟨b, o + j * 2, none⟩) (hw.2 b hC hb)).trans (hk j x e))
    have HS := Lib.hid (fun j x (e : ts[j]? = some x) (w' : World) (hw : Stays C w0 w') => (World.cell?_of_block (w := w0) (a := ⟨b, o + j * 2 + 1, none⟩) (hw.2 b hC hb)).trans (hs j x e))
    have HF := Lib.hid (fun j x (e : ts[j]? = some x) => (hr j x e).form)
    clear hk hs hr ih hst hC hb
    go_enter Tryd.func67, Tryd.ntmps67
    go_wp2_with (at_make; refine wpList_make_full _ rfl _ _ 24 rfl w.heap.size 26 i0 (.agg #[.int .i64 0, .slice none 0 0]) 2 Tryd.underlying24 hi hz0 hz1 .i64 .i64 _ _ ts.length rfl rfl rfl rfl ?c1 ?c2 ?c3 ?_)
    case c1 => rw [hz2]; omega
    case c2 => unfold maxLen; omega
    case c3 => exact Nat.le_refl _
    intro w1 hown0 hg
    have hb1 : Below w.heap.size w w1 := (Below.refl _ _).grown hg (Nat.le_refl _) (fun k h => by cases h)
    have ho := (Row.of_owns (K := fun _ => 0) (S := fun _ => .slice none 0 0) hown0 (fun j hj => zeros_at _ j hj)).1
    have HO := Lib.hid (Fill.start (ts := ts) ho)
    clear hown0 hg ho
    go_wp2_with fail
    go_loopw [4] (fun i wr => ∃ k : Nat, k ≤ ts.length ∧ i = .int .i64 k ∧ Fill wr w.heap.size ts.length ts.length ts k ∧ Below w.heap.size w wr) (fun i _ => ts.length - (intOf i).toNat)
    case atStart => exact ⟨0, Nat.zero_le _, rfl, HO.out, hb1⟩
    case round =>
      obtain ⟨k, hk, rfl, hfill, hbr⟩ := hrel
      have HFI := Lib.hid hfill
      have HB := Lib.hid hbr
      have HSR := Lib.hid (HST.out.trans (Stays.of_below (C := C) hbr))
      clear hb1 hfill hbr
      by_cases hlk : k < ts.length
      · have e := List.getElem?_eq_getElem hlk
        have c1 := HK.out k _ e wr HSR.out
        have c2 := HS.out k _ e wr HSR.out
        obtain ⟨p, q, hf⟩ := HF.out k _ e
        have hnk := nodesS_at ts k hlk
        have HC := Lib.hid (toT_of ts[k].kind p ts[k].args.length q ts[k].args wr (fun w' hw' => by
          have hh := HIH.out k _ e w' (HSR.out.trans (.of_below hw')) (by omega)
          rw [hf] at hh
          exact hh))
        rw [hf] at c2
        have HE := Lib.hid e
        clear e hf hnk
        go_wp2_with fail
        refine HC.out.mono ?_
        rintro e w2 ⟨v, rfl, ⟨s, rfl, hos⟩, hb2⟩
        obtain ⟨p2, q2, hf2⟩ := hos.form
        simp only [Ty.args_mk] at hos hf2
        subst hf2
        have hlt := Nat.lt_of_lt_of_le HFI.out.lt hb2.size
        obtain ⟨hrow, hgo⟩ := HFI.out.next2 hb2 HE.out hos hlk
        obtain ⟨⟨q3, x1⟩, ⟨q4, x2⟩⟩ := hrow
        have z1 := fun i => HFI.out.frz hb2 i
        have HN := Lib.hid hgo
        have HB2 := Lib.hid (((HB.out.trans (hb2.mono HB.out.size)).setCell (p := ⟨w.heap.size, k * 2, none⟩) (Nat.le_refl _) (.int .i64 ts[k].kind)).setCell (p := ⟨w.heap.size, k * 2 + 1, none⟩) (Nat.le_refl _) (.slice p2 ts[k].args.length q2))
        clear hgo hos hb2
        go_wp2_with fail
        go_roundw
        case rel => exact ⟨k + 1, by omega, by go_num, HN.out, HB2.out⟩
        case measure => simp [intOf]; omega
      · obtain rfl : k = ts.length := by omega
        go_wp2_with fail
        go_ret
        exact ⟨_, rfl, HFI.out.full (by unfold maxLen; omega), HB.out⟩
/-- THE LAWS' toType, AT EVERY TYPE. -/
theorem toT_any {C : Nat → Prop} {t : Ty} {v : Value} {w : World} (h : TT w C t v) (hn : nodesS t.args ≤ 1048576) : Calls Tryd.prog 44 #[v] w (NewT t w) := by
  obtain ⟨s, rfl, h⟩ := h
  obtain ⟨p, c, rfl⟩ := h.form
  have := toT_of t.kind p t.args.length c t.args w (fun w' hb => toS_any h w' (.of_below hb) hn)
  cases t
  exact this
#print axioms toT_any
end Go.Proofs.YtnciibngcaajgaaDoor
/- TyInd: Induction over a type that lies in memory; facts on a parameter's box; the figures of a type. -/
namespace Go.Proofs.YtnciibngcaajgaaDoor
open Go Go.RowKit

/-- INDUCTION OVER A TYPE IN MEMORY: each part at its place, in every world that keeps the blocks. -/
theorem TS.ind {w0 : World} {C : Nat → Prop} {motive : List Ty → Value → Prop}
    (step : ∀ (ts : List Ty) (p : Option Addr) (c : Nat), ts.length ≤ 9223372036854775807 →
      (∀ (j : Nat) (x : Ty), ts[j]? = some x → ∃ (b o : Nat) (p' : Option Addr) (c' : Nat), p = some ⟨b, o, none⟩ ∧
        (∀ w', Stays C w0 w' → w'.cell? ⟨b, o + j * 2, none⟩ = some (.int .i64 x.kind) ∧ w'.cell? ⟨b, o + j * 2 + 1, none⟩ = some (.slice p' x.args.length c')) ∧
        TS w0 C x.args (.slice p' x.args.length c') ∧ motive x.args (.slice p' x.args.length c')) → motive ts (.slice p ts.length c))
    {ts : List Ty} {v : Value} (h : TS w0 C ts v) : motive ts v := by
  induction h with
  | nil a c => exact step [] a c (by simp) (fun j x hj => by simp at hj)
  | @cons ts b o c S h1 hc hm hC hb hk hs hr ih =>
    refine step ts _ c (by omega) (fun j x hj => ?_)
    obtain ⟨p', c', hf⟩ := (hr j x hj).form
    refine ⟨b, o, p', c', rfl, fun w' hw => ⟨?_, ?_⟩, hf ▸ hr j x hj, hf ▸ ih j x hj⟩
    · exact (World.cell?_of_block (w := w0) (a := ⟨b, o + j * 2, none⟩) (hw.2 b hC hb)).trans (hk j x hj)
    · rw [← hf]; exact (World.cell?_of_block (w := w0) (a := ⟨b, o + j * 2 + 1, none⟩) (hw.2 b hC hb)).trans (hs j x hj)

/-- A part of a slice of types, in every world that keeps the blocks. -/
theorem TS.at {w0 : World} {C : Nat → Prop} {ts : List Ty} {p : Option Addr} {n c : Nat} (h : TS w0 C ts (.slice p n c)) : ∀ (j : Nat) (x : Ty), ts[j]? = some x → ∃ (b o : Nat) (p' : Option Addr) (c' : Nat), p = some ⟨b, o, none⟩ ∧
    (∀ w', Stays C w0 w' → w'.cell? ⟨b, o + j * 2, none⟩ = some (.int .i64 x.kind) ∧ w'.cell? ⟨b, o + j * 2 + 1, none⟩ = some (.slice p' x.args.length c')) ∧ TS w0 C x.args (.slice p' x.args.length c') := by
  have key := TS.ind (motive := fun ts v => ∀ (p : Option Addr) (n c : Nat), v = .slice p n c → ∀ (j : Nat) (x : Ty), ts[j]? = some x → ∃ (b o : Nat) (p' : Option Addr) (c' : Nat), p = some ⟨b, o, none⟩ ∧
    (∀ w', Stays C w0 w' → w'.cell? ⟨b, o + j * 2, none⟩ = some (.int .i64 x.kind) ∧ w'.cell? ⟨b, o + j * 2 + 1, none⟩ = some (.slice p' x.args.length c')) ∧ TS w0 C x.args (.slice p' x.args.length c')) (fun ts p c _ H p2 n2 c2 e j x hj => by
      obtain ⟨b, o, p', c', hp, hc, hT, _⟩ := H j x hj
      simp only [Value.slice.injEq] at e
      exact ⟨b, o, p', c', e.1 ▸ hp, hc, hT⟩) h
  exact key p n c rfl

/-- A parameter's box in a later world. -/
theorem box_blk (w w' : World) (A : Array Value) (t : TypeId) (h : Below (w.alloc (.cells A t)).heap.size (w.alloc (.cells A t)) w') : w'.heap[w.heap.size]? = some (.cells A t (0, 0)) := by
  rw [h.block _ (by simp)]
  exact blk_new _ _
theorem box2 {w w' : World} {a b : Value} {t : TypeId} (h : Below (w.alloc (.cells #[a, b] t)).heap.size (w.alloc (.cells #[a, b] t)) w') : w'.cell? ⟨w.heap.size, 0, none⟩ = some a ∧ w'.cell? ⟨w.heap.size, 1, none⟩ = some b := by
  have hb := box_blk _ _ _ _ h
  exact ⟨cell_of_blk hb 0, cell_of_blk hb 1⟩
theorem below_box {w w' : World} {A : Array Value} {t : TypeId} (h : Below (w.alloc (.cells A t)).heap.size (w.alloc (.cells A t)) w') : Below w.heap.size w w' :=
  ((Below.refl w.heap.size w).alloc (Nat.le_refl _) _).trans (h.mono (by simp))

mutual
def Ty.depth : Ty → Nat
  | .mk _ ts => 1 + depthS ts
def depthS : List Ty → Nat
  | [] => 0
  | t :: ts => max t.depth (depthS ts)
end
mutual
/-- Every node has one of the four kinds with its number of parts. -/
def Ty.form : Ty → Bool
  | .mk k ts => formS ts && (if k = 1 ∨ k = 2 then ts.length == 0 else if k = 3 then ts.length == 2 else k == 4 && ts.length == 1)
def formS : List Ty → Bool
  | [] => true
  | t :: ts => t.form && formS ts
end
mutual
def Ty.has (q : Int) : Ty → Bool
  | .mk k ts => hasS q ts || k == q
def hasS (q : Int) : List Ty → Bool
  | [] => false
  | t :: ts => t.has q || hasS q ts
end
theorem depthS_append (a b : List Ty) : depthS (a ++ b) = max (depthS a) (depthS b) := by
  induction a with
  | nil => simp [depthS]
  | cons x a ih => simp only [List.cons_append, depthS, ih]; omega
theorem formS_append (a b : List Ty) : formS (a ++ b) = (formS a && formS b) := by
  induction a with
  | nil => simp [formS]
  | cons x a ih => simp [formS, ih, Bool.and_assoc]
theorem hasS_append (q : Int) (a b : List Ty) : hasS q (a ++ b) = (hasS q a || hasS q b) := by
  induction a with
  | nil => simp [hasS]
  | cons x a ih => simp [hasS, ih, Bool.or_assoc]
theorem take_next {ts : List Ty} {k : Nat} (h : k < ts.length) : ts.take (k + 1) = ts.take k ++ [ts[k]] := by
  rw [List.take_add_one, List.getElem?_eq_getElem h]; rfl
theorem Ty.eta (t : Ty) : t = .mk t.kind t.args := by cases t; rfl
theorem depth_at (t : Ty) : t.depth = 1 + depthS t.args := by cases t; simp [Ty.depth]
theorem Ty.has_at (q : Int) (t : Ty) : t.has q = (hasS q t.args || t.kind == q) := by cases t; simp [Ty.has]
theorem depth_le (ts : List Ty) (h : ∀ t ∈ ts, t.depth ≤ t.nodes) : depthS ts ≤ nodesS ts := by
  induction ts with
  | nil => simp [depthS]
  | cons t ts ih =>
    have h1 := h t (List.mem_cons_self ..)
    have h2 := ih (fun u hu => h u (List.mem_cons_of_mem _ hu))
    simp only [depthS, nodesS]
    omega
theorem Ty.depth_nodes : ∀ t : Ty, t.depth ≤ t.nodes
  | .mk k ts => by
    have := depth_le ts (fun t _ => Ty.depth_nodes t)
    simp only [Ty.depth, Ty.nodes]
    omega
theorem depthS_nodes (ts : List Ty) : depthS ts ≤ nodesS ts := depth_le ts (fun t _ => t.depth_nodes)
theorem nodesS_take_next (ts : List Ty) (k : Nat) (h : k < ts.length) : nodesS (ts.take (k + 1)) = nodesS (ts.take k) + ts[k].nodes := by
  rw [take_next h, nodesS_append]; simp [nodesS]
theorem depthS_take_next (ts : List Ty) (k : Nat) (h : k < ts.length) : depthS (ts.take (k + 1)) = max (depthS (ts.take k)) ts[k].depth := by
  rw [take_next h, depthS_append]; simp [depthS]
theorem depthS_at (ts : List Ty) (k : Nat) (h : k < ts.length) : depthS (ts.take k) ≤ 1048576 ∧ ts[k].depth ≤ 1048576 ∨ 1048576 < nodesS ts := by
  have h1 := depthS_nodes (ts.take k)
  have h2 := ts[k].depth_nodes
  have h3 := nodesS_take_next ts k h
  have h4 := nodesS_take_le ts (k + 1)
  omega
end Go.Proofs.YtnciibngcaajgaaDoor
/- SpecTy: The contracts of the model's SizeOfType, DepthOfType, l3Form, l3Left, l3Has: what they answer at a type in memory. -/
namespace Go.Proofs.YtnciibngcaajgaaDoor
open Go Go.RowKit

end Go.Proofs.YtnciibngcaajgaaDoor
/- SpecTy2: The contracts of the model's DepthOfType, l3Form, l3Left, l3Has: what they answer at a type in memory. -/
namespace Go.Proofs.YtnciibngcaajgaaDoor
open Go Go.RowKit


set_option maxRecDepth 100000 in
theorem max_any (a b : Int) (w : World) : Calls Tryd.prog 60 #[.int .i64 a, .int .i64 b] w fun e w' => e = .returned (.int .i64 (max a b)) ∧ w' = w := by
  go_enter Tryd.func60, Tryd.ntmps60
  by_cases h : b < a
  · go_wp2
    go_ret
    exact ⟨congrArg (fun z => Ending.returned (.int .i64 z)) (Int.max_eq_left (by omega)).symm, rfl⟩
  · go_wp2
    go_ret
    exact ⟨congrArg (fun z => Ending.returned (.int .i64 z)) (Int.max_eq_right (by omega)).symm, rfl⟩

theorem form_false {q : Int} {ts : List Ty} {k : Nat} (h : k < ts.length) (hf : ts[k].form = false) : (Ty.mk q ts).form = false := by
  have e : formS ts = false := by
    rw [← List.take_append_drop (k + 1) ts, formS_append, take_next h, formS_append]
    simp [formS, hf]
  simp [Ty.form, e]
theorem has_true {q u : Int} {ts : List Ty} {k : Nat} (h : k < ts.length) (hf : ts[k].has u = true) : (Ty.mk q ts).has u = true := by
  have e : hasS u ts = true := by
    rw [← List.take_append_drop (k + 1) ts, hasS_append, take_next h, hasS_append]
    simp [hasS, hf]
  simp [Ty.has, e]
theorem form_kind {q : Int} {ts : List Ty} {b : Bool} (h : formS ts = true) (hb : b = (if q = 1 ∨ q = 2 then ts.length == 0 else if q = 3 then ts.length == 2 else q == 4 && ts.length == 1)) : b = (Ty.mk q ts).form := by
  rw [Ty.form, h, hb, Bool.true_and]
theorem beq_0 (n : Nat) : ((n : Int) == 0) = (n == 0) := by rw [Bool.eq_iff_iff]; simp only [beq_iff_eq]; omega
theorem beq_decide (a b : Nat) : (a == b) = decide (a = b) := by rw [Bool.eq_iff_iff]; simp
theorem beq_1 (n : Nat) : ((n : Int) == 1) = (n == 1) := by rw [Bool.eq_iff_iff]; simp only [beq_iff_eq]; omega
theorem beq_2 (n : Nat) : ((n : Int) == 2) = (n == 2) := by rw [Bool.eq_iff_iff]; simp only [beq_iff_eq]; omega

/-- What is left of a bound behind n nodes; below 0: there were more. -/
def LeftEnds (left : Int) (n : Nat) (r : Int) : Prop := (0 ≤ r ∧ r + n = left) ∨ (r < 0 ∧ -1 ≤ r ∧ left < n) ∨ (r = -1 ∧ left = -1)
theorem LeftEnds.range {left : Int} {n : Nat} {r : Int} (h : LeftEnds left n r) (hl : -1 ≤ left) : -1 ≤ r ∧ r ≤ left := by
  unfold LeftEnds at h
  omega
theorem leftEnds_start {left : Int} (h : 0 ≤ left) : LeftEnds (left - 1) (nodesS ([] : List Ty)) (left - 1) := by
  unfold LeftEnds; simp only [nodesS]; omega
theorem LeftEnds.stop {left L : Int} {ts : List Ty} {k : Nat} (h : LeftEnds (left - 1) (nodesS (ts.take k)) L) (hn : L < 0) (_ : nodesS (ts.take (k + 1)) ≤ nodesS ts) : LeftEnds left (1 + nodesS ts) L := by
  have := nodesS_take_le ts k
  unfold LeftEnds at *; omega
theorem LeftEnds.next {left L r : Int} {n m : Nat} (h : LeftEnds (left - 1) n L) (hr : LeftEnds L m r) (h0 : 0 ≤ L) : LeftEnds (left - 1) (n + m) r := by
  unfold LeftEnds at *; omega
theorem LeftEnds.full {left L : Int} {n : Nat} (h : LeftEnds (left - 1) n L) : LeftEnds left (1 + n) L := by
  unfold LeftEnds at *; omega

set_option maxRecDepth 100000 in
set_option maxHeartbeats 1000000 in
theorem depth_any {w0 : World} {C : Nat → Prop} {ts : List Ty} {v : Value} (h : TS w0 C ts v) : ∀ (w : World) (q : Int), Stays C w0 w → nodesS ts ≤ 1048576 → Calls Tryd.prog 81 #[.agg #[.int .i64 q, v]] w (IntRet (fun r => r = ((1 + depthS ts : Nat) : Int)) w) := by
  refine TS.ind (motive := fun ts v => ∀ (w : World) (q : Int), Stays C w0 w → nodesS ts ≤ 1048576 → Calls Tryd.prog 81 #[.agg #[.int .i64 q, v]] w (IntRet (fun r => r = ((1 + depthS ts : Nat) : Int)) w)) ?_ h
  intro ts p c hl H w q hst hn
  have HH := Lib.hid H
  have HST := Lib.hid hst
  have hlen := nodesS_ge ts
  clear H hst
  go_enter Tryd.func81, Tryd.ntmps81
  go_wp2_with fail
  go_loopw [3, 4] (fun n i wr => ∃ (k : Nat), k ≤ ts.length ∧ i = .int .i64 k ∧ n = .int .i64 ((depthS (ts.take k) : Nat) : Int) ∧ Below (w.alloc (.cells #[.int .i64 q, .slice p ts.length c] 26)).heap.size (w.alloc (.cells #[.int .i64 q, .slice p ts.length c] 26)) wr) (fun _ i _ => ts.length - (intOf i).toNat)
  case atStart => exact ⟨0, Nat.zero_le _, rfl, by simp [depthS], Below.refl _ _⟩
  case round =>
    obtain ⟨k, hk, rfl, rfl, hbr⟩ := hrel
    have HB := Lib.hid hbr
    obtain ⟨d0, d1⟩ := box2 hbr
    clear hbr
    by_cases hlk : k < ts.length
    · obtain ⟨b, o, p', c', rfl, hcs, hT, hI⟩ := HH.out k _ (List.getElem?_eq_getElem hlk)
      have hsr := HST.out.trans (Stays.of_below (C := C) (below_box HB.out))
      obtain ⟨c1, c2⟩ := hcs wr hsr
      have n1 := nodesS_take_next ts k hlk
      have n2 := nodesS_take_le ts (k + 1)
      have n3 := ts[k].nodes_eq
      have m1 := depthS_at ts k hlk
      have m2 := depthS_take_next ts k hlk
      have m3 := depth_at ts[k]
      have b1 : depthS (ts.take k) ≤ 1048576 := by omega
      have b2 : 1 + depthS ts[k].args ≤ 1048576 := by omega
      have HM2 := Lib.hid m2
      have HM3 := Lib.hid m3
      clear m1 m2 m3
      have HC := Lib.hid (hI wr ts[k].kind hsr (by omega))
      have HN1 := Lib.hid n1
      have HN2 := Lib.hid n2
      have HN3 := Lib.hid n3
      clear hcs hT hI hsr n1 n2 n3
      go_wp2_with fail
      refine HC.out.mono ?_
      rintro e w1 ⟨r, hr, rfl, hb1⟩
      have HB1 := Lib.hid (HB.out.trans (hb1.mono HB.out.size))
      clear hb1
      subst hr
      go_wp2_with fail
      refine (max_any _ _ _).mono ?_
      rintro e w2 ⟨rfl, rfl⟩
      go_wp2_with fail
      go_roundw
      case rel => exact ⟨k + 1, by omega, by go_num, by have h1 := HM2.out; have h2 := HM3.out; rw [h1, h2]; go_num, HB1.out⟩
      case measure => simp [intOf]; omega
    · obtain rfl : k = ts.length := by omega
      rw [List.take_length]
      have b3 := depthS_nodes ts
      go_wp2_with fail
      go_ret
      exact ⟨_, rfl, by go_num, below_box HB.out⟩

set_option maxRecDepth 100000 in
set_option maxHeartbeats 1000000 in
theorem form_any {w0 : World} {C : Nat → Prop} {ts : List Ty} {v : Value} (h : TS w0 C ts v) : ∀ (w : World) (q : Int), Stays C w0 w → nodesS ts ≤ 1048576 → Calls Tryd.prog 82 #[.agg #[.int .i64 q, v]] w (BoolRet (fun r => r = (Ty.mk q ts).form) w) := by
  refine TS.ind (motive := fun ts v => ∀ (w : World) (q : Int), Stays C w0 w → nodesS ts ≤ 1048576 → Calls Tryd.prog 82 #[.agg #[.int .i64 q, v]] w (BoolRet (fun r => r = (Ty.mk q ts).form) w)) ?_ h
  intro ts p c hl H w q hst hn
  have HH := Lib.hid H
  have HST := Lib.hid hst
  have hlen := nodesS_ge ts
  clear H hst
  go_enter Tryd.func82, Tryd.ntmps82
  go_wp2_with fail
  go_loopw [3] (fun i wr => ∃ (k : Nat), k ≤ ts.length ∧ i = .int .i64 k ∧ formS (ts.take k) = true ∧ Below (w.alloc (.cells #[.int .i64 q, .slice p ts.length c] 26)).heap.size (w.alloc (.cells #[.int .i64 q, .slice p ts.length c] 26)) wr) (fun i _ => ts.length - (intOf i).toNat)
  case atStart => exact ⟨0, Nat.zero_le _, rfl, by simp [formS], Below.refl _ _⟩
  case round =>
    obtain ⟨k, hk, rfl, hfm, hbr⟩ := hrel
    have HB := Lib.hid hbr
    obtain ⟨d0, d1⟩ := box2 hbr
    clear hbr
    by_cases hlk : k < ts.length
    · obtain ⟨b, o, p', c', rfl, hcs, hT, hI⟩ := HH.out k _ (List.getElem?_eq_getElem hlk)
      have hsr := HST.out.trans (Stays.of_below (C := C) (below_box HB.out))
      obtain ⟨c1, c2⟩ := hcs wr hsr
      have n1 := nodesS_take_next ts k hlk
      have n2 := nodesS_take_le ts (k + 1)
      have n3 := ts[k].nodes_eq
      have HM := Lib.hid hfm
      clear hfm
      have HC := Lib.hid (hI wr ts[k].kind hsr (by omega))
      have HN1 := Lib.hid n1
      have HN2 := Lib.hid n2
      have HN3 := Lib.hid n3
      clear hcs hT hI hsr n1 n2 n3
      go_wp2_with fail
      refine HC.out.mono ?_
      rintro e w1 ⟨r, hr, rfl, hb1⟩
      have HB1 := Lib.hid (HB.out.trans (hb1.mono HB.out.size))
      clear hb1
      have HR := Lib.hid hr
      clear hr
      cases r with
      | true =>
        go_wp2_with fail
        go_roundw
        case rel => exact ⟨k + 1, by omega, by go_num, by rw [take_next hlk, formS_append, HM.out]; simpa [formS, ← Ty.eta] using HR.out.symm, HB1.out⟩
        case measure => simp [intOf]; omega
      | false =>
        go_wp2_with fail
        go_ret
        exact ⟨false, (form_false hlk (by rw [Ty.eta ts[k]]; exact HR.out.symm)).symm, rfl, below_box HB1.out⟩
    · obtain rfl : k = ts.length := by omega
      rw [List.take_length] at hfm
      have HM := Lib.hid hfm
      clear hfm
      by_cases q1 : q = 1
      · subst q1
        go_wp2_with fail
        go_ret
        exact ⟨_, form_kind HM.out (by simp [beq_0]), rfl, below_box HB.out⟩
      by_cases q2 : q = 2
      · subst q2
        go_wp2_with fail
        go_ret
        exact ⟨_, form_kind HM.out (by simp [beq_0]), rfl, below_box HB.out⟩
      by_cases q3 : q = 3
      · subst q3
        go_wp2_with fail
        go_ret
        exact ⟨_, form_kind HM.out (by simp [beq_2]), rfl, below_box HB.out⟩
      by_cases q4 : q = 4
      · subst q4
        go_wp2_with fail
        go_ret
        exact ⟨_, form_kind HM.out (by simp [beq_1]), rfl, below_box HB.out⟩
      go_wp2_with fail
      go_ret
      exact ⟨_, form_kind HM.out (by simp [q1, q2, q3, q4]), rfl, below_box HB.out⟩

set_option maxRecDepth 100000 in
set_option maxHeartbeats 1000000 in
theorem left_any {w0 : World} {C : Nat → Prop} {ts : List Ty} {v : Value} (h : TS w0 C ts v) : ∀ (w : World) (q : Int) (left : Int), Stays C w0 w → nodesS ts ≤ 1048576 → 0 ≤ left → left ≤ 1048576 → Calls Tryd.prog 80 #[.agg #[.int .i64 q, v], .int .i64 left] w (IntRet (LeftEnds left (1 + nodesS ts)) w) := by
  refine TS.ind (motive := fun ts v => ∀ (w : World) (q : Int) (left : Int), Stays C w0 w → nodesS ts ≤ 1048576 → 0 ≤ left → left ≤ 1048576 → Calls Tryd.prog 80 #[.agg #[.int .i64 q, v], .int .i64 left] w (IntRet (LeftEnds left (1 + nodesS ts)) w)) ?_ h
  intro ts p c hl H w q left hst hn h0 hL
  have HH := Lib.hid H
  have HST := Lib.hid hst
  have hlen := nodesS_ge ts
  clear H hst
  go_enter Tryd.func80, Tryd.ntmps80
  go_wp2_with fail
  go_loopw [1, 5] (fun l i wr => ∃ (k : Nat) (L : Int), k ≤ ts.length ∧ i = .int .i64 k ∧ l = .int .i64 L ∧ LeftEnds (left - 1) (nodesS (ts.take k)) L ∧ Below (w.alloc (.cells #[.int .i64 q, .slice p ts.length c] 26)).heap.size (w.alloc (.cells #[.int .i64 q, .slice p ts.length c] 26)) wr) (fun _ i _ => ts.length - (intOf i).toNat)
  case atStart => exact ⟨0, _, Nat.zero_le _, rfl, rfl, leftEnds_start h0, Below.refl _ _⟩
  case round =>
    obtain ⟨k, L, hk, rfl, rfl, hle, hbr⟩ := hrel
    have HB := Lib.hid hbr
    obtain ⟨d0, d1⟩ := box2 hbr
    clear hbr
    by_cases hlk : k < ts.length
    · obtain ⟨b, o, p', c', rfl, hcs, hT, hI⟩ := HH.out k _ (List.getElem?_eq_getElem hlk)
      have hsr := HST.out.trans (Stays.of_below (C := C) (below_box HB.out))
      obtain ⟨c1, c2⟩ := hcs wr hsr
      have n1 := nodesS_take_next ts k hlk
      have n2 := nodesS_take_le ts (k + 1)
      have n3 := ts[k].nodes_eq
      have HM := Lib.hid hle
      have hLr := hle.range (by omega)
      clear hle
      by_cases hneg : L < 0
      · clear hcs hT hI hsr n1 n3
        go_wp2_with fail
        go_ret
        exact ⟨_, HM.out.stop hneg n2, rfl, below_box HB.out⟩
      have HC := Lib.hid (hI wr ts[k].kind L hsr (by omega) (by omega) (by omega))
      have HN1 := Lib.hid n1
      have HN2 := Lib.hid n2
      have HN3 := Lib.hid n3
      clear hcs hT hI hsr n1 n2 n3
      go_wp2_with fail
      refine HC.out.mono ?_
      rintro e w1 ⟨r, hr, rfl, hb1⟩
      have HB1 := Lib.hid (HB.out.trans (hb1.mono HB.out.size))
      clear hb1
      have hr2 := hr.range (by omega)
      have HR := Lib.hid hr
      clear hr
      go_wp2_with fail
      go_roundw
      case rel => exact ⟨k + 1, r, by omega, by go_num, rfl, by rw [HN1.out, HN3.out]; exact HM.out.next HR.out (by omega), HB1.out⟩
      case measure => simp [intOf]; omega
    · obtain rfl : k = ts.length := by omega
      rw [List.take_length] at hle
      have HM := Lib.hid hle
      have hLr := hle.range (by omega)
      clear hle
      go_wp2_with fail
      go_ret
      exact ⟨_, HM.out.full, rfl, below_box HB.out⟩

end Go.Proofs.YtnciibngcaajgaaDoor
/- TmSpec: The contracts of the model's SizeOf, DepthOf, l5Left: what they answer at a term in memory. -/
namespace Go.Proofs.YtnciibngcaajgaaDoor
open Go Go.RowKit

mutual
def Tm.depth : Tm → Nat
  | .mk _ _ _ _ _ _ ts => 1 + depthM ts
def depthM : List Tm → Nat
  | [] => 0
  | t :: ts => max t.depth (depthM ts)
end
theorem Tm.depth_eq (t : Tm) : t.depth = 1 + depthM t.args := by cases t; simp [Tm.depth, Tm.args]
theorem depthM_append (a b : List Tm) : depthM (a ++ b) = max (depthM a) (depthM b) := by
  induction a with
  | nil => simp [depthM]
  | cons x a ih => simp only [List.cons_append, depthM, ih]; omega
theorem depthM_take (ts : List Tm) (k : Nat) (h : k < ts.length) : depthM (ts.take (k + 1)) = max (depthM (ts.take k)) ts[k].depth := by
  rw [tm_take_next h, depthM_append]; simp [depthM]
mutual
theorem depthM_nodes : ∀ ts : List Tm, depthM ts ≤ nodesM ts
  | [] => Nat.le_refl _
  | t :: ts => by
    have h1 := Tm.depth_nodes t
    have h2 := depthM_nodes ts
    simp only [depthM, nodesM]
    omega
theorem Tm.depth_nodes : ∀ t : Tm, t.depth ≤ t.nodes
  | .mk k a b n t r ts => by
    have := depthM_nodes ts
    simp only [Tm.depth, Tm.nodes]
    omega
end
theorem leftM_stop {left L : Int} {a n : Nat} (h : LeftEnds (left - 1) a L) (hn : L < 0) (ha : a ≤ n) : LeftEnds left (1 + n) L := by
  unfold LeftEnds at *; omega
theorem box_rest {w w' : World} {A : Array Value} {T : TypeId} (h : Below (w.alloc (.cells A T)).heap.size (w.alloc (.cells A T)) w') : Below w.heap.size w w' :=
  (al_below w _).trans (h.mono (by simp))


set_option maxRecDepth 100000 in
set_option maxHeartbeats 1000000 in
theorem depthM_any {C : Nat → Prop} : ∀ (m : Nat) {t : Tm} {tp : Option Addr} {tc : Nat} {rp : Option Addr} {rc : Nat} {p : Option Addr} {c : Nat} (w : World), t.nodes ≤ m → TM' w C t tp tc rp rc p c → t.wt ≤ 1048576 → Calls Tryd.prog 35 #[tmV t tp tc rp rc p c] w (IntRet (fun r => r = ((t.depth : Nat) : Int)) w)
  | 0, t, tp, tc, rp, rc, p, c, w, hm, hT, hn => by rw [t.nodes_eq] at hm; omega
  | m + 1, t, tp, tc, rp, rc, p, c, w, hm, hT, hn => by
    have HT := Lib.hid hT
    have HX0 := Lib.hid (Bx9.new w t tp tc rp rc p c 29)
    have HB0 := Lib.hid (al_below w (.cells (tmC t tp tc rp rc p c) 29))
    have hne := t.nodes_eq
    have hwe := t.wt_eq
    have hlen := wtS_ge t.args
    have hnw := nodesM_wt t.args
    have HM := Lib.hid hm
    have HNE := Lib.hid hne
    have hwa : wtS t.args ≤ 1048576 := by omega
    clear hT hne hwe hm
    go_enter Tryd.func35, Tryd.ntmps35
    go_wp2_with fail
    go_loopw [3, 4] (fun n i wr => ∃ (k : Nat), k ≤ t.args.length ∧ i = .int .i64 k ∧ n = .int .i64 ((depthM (t.args.take k) : Nat) : Int) ∧ Below (w.alloc (.cells (tmC t tp tc rp rc p c) 29)).heap.size (w.alloc (.cells (tmC t tp tc rp rc p c) 29)) wr) (fun _ i _ => t.args.length - (intOf i).toNat)
    case atStart => exact ⟨0, Nat.zero_le _, rfl, by simp [depthM], Below.refl _ _⟩
    case round =>
      obtain ⟨k, hk, rfl, rfl, hbr⟩ := hrel
      have HBR := Lib.hid hbr
      have HB := Lib.hid (HB0.out.trans (hbr.mono HB0.out.size))
      obtain ⟨_, _, _, _, _, _, _, _, d8⟩ := HX0.out.keep hbr
      clear hbr
      by_cases hlk : k < t.args.length
      · obtain ⟨b, o, tp2, tc2, rp2, rc2, p2, c2, rfl, hC, hb, h9, hP⟩ := tm_part HT.out.args k hlk
        obtain ⟨g0, g1, g2, g3, g4, g5, g6, g7, g8⟩ := h9 wr (.of_below HB.out)
        have n1 := nodesM_take t.args k hlk
        have n2 := nodesM_take_le t.args (k + 1)
        have n4 := nodesM_at t.args k hlk
        have n5 := wtS_at t.args k hlk
        have hmk : t.args[k].nodes ≤ m := by have := HM.out; have := HNE.out; omega
        have hi0 : (0 : Int) ≤ (k : Int) := Int.natCast_nonneg _
        have hi1 : (k : Int) < (t.args.length : Int) := by omega
        have m2 := depthM_take t.args k hlk
        have m3 := depthM_nodes (t.args.take k)
        have m4 := t.args[k].depth_nodes
        have b1 : depthM (t.args.take k) ≤ 1048576 := by omega
        have b2 : t.args[k].depth ≤ 1048577 := by omega
        have HM2 := Lib.hid m2
        clear m2 m3 m4
        have HC := Lib.hid (depthM_any m wr hmk (hP.stays (.of_below HB.out)) (by omega))
        have HN1 := Lib.hid n1
        have HN2 := Lib.hid n2
        clear hC hb h9 hP n1 n2 n4 n5 hmk
        go_wp2_with fail
        refine HC.out.mono ?_
        rintro e w1 ⟨r, hr, rfl, hb1⟩
        have HB1 := Lib.hid (HBR.out.trans (hb1.mono HBR.out.size))
        clear hb1
        subst hr
        go_wp2_with fail
        refine (max_any _ _ _).mono ?_
        rintro e w2 ⟨rfl, rfl⟩
        go_wp2_with fail
        go_roundw
        case rel => exact ⟨k + 1, by omega, by go_num, by have h1 := HM2.out; rw [h1]; go_num, HB1.out⟩
        case measure => simp [intOf]; omega
      · obtain rfl : k = t.args.length := by omega
        rw [List.take_length]
        have b3 := depthM_nodes t.args
        have HDE := Lib.hid t.depth_eq
        go_wp2_with fail
        go_ret
        exact ⟨_, by rw [HDE.out]; go_num, rfl, box_rest HBR.out⟩


set_option maxRecDepth 100000 in
set_option maxHeartbeats 1000000 in
theorem leftM_any {C : Nat → Prop} : ∀ (m : Nat) {t : Tm} {tp : Option Addr} {tc : Nat} {rp : Option Addr} {rc : Nat} {p : Option Addr} {c : Nat} (w : World) (left : Int), t.nodes ≤ m → TM' w C t tp tc rp rc p c → t.wt ≤ 1048576 → 0 ≤ left → left ≤ 1048576 → Calls Tryd.prog 34 #[tmV t tp tc rp rc p c, .int .i64 left] w (IntRet (LeftEnds left t.nodes) w)
  | 0, t, tp, tc, rp, rc, p, c, w, left, hm, hT, hn, h0, hL => by rw [t.nodes_eq] at hm; omega
  | m + 1, t, tp, tc, rp, rc, p, c, w, left, hm, hT, hn, h0, hL => by
    have HT := Lib.hid hT
    have HX0 := Lib.hid (Bx9.new w t tp tc rp rc p c 29)
    have HB0 := Lib.hid (al_below w (.cells (tmC t tp tc rp rc p c) 29))
    have hne := t.nodes_eq
    have hwe := t.wt_eq
    have hlen := wtS_ge t.args
    have hnw := nodesM_wt t.args
    have HM := Lib.hid hm
    have HNE := Lib.hid hne
    have hwa : wtS t.args ≤ 1048576 := by omega
    clear hT hne hwe hm
    go_enter Tryd.func34, Tryd.ntmps34
    go_wp2_with fail
    go_loopw [1, 5] (fun l i wr => ∃ (k : Nat) (L : Int), k ≤ t.args.length ∧ i = .int .i64 k ∧ l = .int .i64 L ∧ LeftEnds (left - 1) (nodesM (t.args.take k)) L ∧ Below (w.alloc (.cells (tmC t tp tc rp rc p c) 29)).heap.size (w.alloc (.cells (tmC t tp tc rp rc p c) 29)) wr) (fun _ i _ => t.args.length - (intOf i).toNat)
    case atStart => exact ⟨0, _, Nat.zero_le _, rfl, rfl, leftEnds_start h0, Below.refl _ _⟩
    case round =>
      obtain ⟨k, L, hk, rfl, rfl, hle, hbr⟩ := hrel
      have HBR := Lib.hid hbr
      have HB := Lib.hid (HB0.out.trans (hbr.mono HB0.out.size))
      obtain ⟨_, _, _, _, _, _, _, _, d8⟩ := HX0.out.keep hbr
      clear hbr
      by_cases hlk : k < t.args.length
      · obtain ⟨b, o, tp2, tc2, rp2, rc2, p2, c2, rfl, hC, hb, h9, hP⟩ := tm_part HT.out.args k hlk
        obtain ⟨g0, g1, g2, g3, g4, g5, g6, g7, g8⟩ := h9 wr (.of_below HB.out)
        have n1 := nodesM_take t.args k hlk
        have n2 := nodesM_take_le t.args (k + 1)
        have n4 := nodesM_at t.args k hlk
        have n5 := wtS_at t.args k hlk
        have hmk : t.args[k].nodes ≤ m := by have := HM.out; have := HNE.out; omega
        have hi0 : (0 : Int) ≤ (k : Int) := Int.natCast_nonneg _
        have hi1 : (k : Int) < (t.args.length : Int) := by omega
        have HLE := Lib.hid hle
        have hLr := hle.range (by omega)
        clear hle
        by_cases hneg : L < 0
        · clear hC hb h9 hP n1 n4 n5 hmk
          go_wp2_with fail
          go_ret
          exact ⟨_, by rw [HNE.out]; exact leftM_stop HLE.out hneg (nodesM_take_le t.args k), rfl, box_rest HBR.out⟩
        have HC := Lib.hid (leftM_any m wr L hmk (hP.stays (.of_below HB.out)) (by omega) (by omega) (by omega))
        have HN1 := Lib.hid n1
        have HN2 := Lib.hid n2
        clear hC hb h9 hP n1 n2 n4 n5 hmk
        go_wp2_with fail
        refine HC.out.mono ?_
        rintro e w1 ⟨r, hr, rfl, hb1⟩
        have HB1 := Lib.hid (HBR.out.trans (hb1.mono HBR.out.size))
        clear hb1
        have hr2 := hr.range (by omega)
        have HR := Lib.hid hr
        clear hr
        go_wp2_with fail
        go_roundw
        case rel => exact ⟨k + 1, r, by omega, by go_num, rfl, by rw [HN1.out]; exact HLE.out.next HR.out (by omega), HB1.out⟩
        case measure => simp [intOf]; omega
      · obtain rfl : k = t.args.length := by omega
        rw [List.take_length] at hle
        have HLE := Lib.hid hle
        have hLr := hle.range (by omega)
        clear hle
        go_wp2_with fail
        go_ret
        exact ⟨_, by rw [HNE.out]; exact HLE.out.full, rfl, box_rest HBR.out⟩

end Go.Proofs.YtnciibngcaajgaaDoor
/- Reduce: The contracts of Reduce, the program's and the model's: the remainder from 0 up to the modulus. -/
namespace Go.Proofs.YtnciibngcaajgaaDoor
open Go Go.RowKit

theorem tmod_cases (n : Int) : n.tmod 10007 = n % 10007 ∧ 0 ≤ n ∨ n.tmod 10007 = -((-n) % 10007) ∧ n < 0 := by
  by_cases h : 0 ≤ n
  · exact Or.inl ⟨Int.tmod_eq_emod_of_nonneg h, h⟩
  · refine Or.inr ⟨?_, by omega⟩
    have e : n = -(-n) := by omega
    rw [e, Int.neg_tmod, Int.tmod_eq_emod_of_nonneg (by omega)]
    simp
theorem red_I (n : Int) : (wrap64 (n.tmod 10007 + 10007)).tmod 10007 = n % 10007 := by
  have hw : wrap64 (n.tmod 10007 + 10007) = n.tmod 10007 + 10007 := by
    rcases tmod_cases n with ⟨h, _⟩ | ⟨h, _⟩ <;> · rw [h]; unfold wrap64; omega
  rw [hw, Int.tmod_eq_emod_of_nonneg (by rcases tmod_cases n with ⟨h, _⟩ | ⟨h, _⟩ <;> omega)]
  rcases tmod_cases n with ⟨h, _⟩ | ⟨h, _⟩ <;> omega
theorem red_S (n : Int) (h : n.tmod 10007 < 0) : wrap64 (n.tmod 10007 + 10007) = n % 10007 := by
  have hw : wrap64 (n.tmod 10007 + 10007) = n.tmod 10007 + 10007 := by
    rcases tmod_cases n with ⟨h, _⟩ | ⟨h, _⟩ <;> · rw [h]; unfold wrap64; omega
  rw [hw]
  rcases tmod_cases n with ⟨h, _⟩ | ⟨h, _⟩ <;> omega
theorem red_S0 (n : Int) (h : 0 ≤ n.tmod 10007) : n.tmod 10007 = n % 10007 := by
  rcases tmod_cases n with ⟨h, _⟩ | ⟨h, _⟩ <;> omega
theorem ret_int {a b : Int} (h : a = b) : Ending.returned (.int .i64 a) = Ending.returned (.int .i64 b) := by rw [h]

set_option maxHeartbeats 400000 in
theorem redI_any (n : Int) (w : World) :
    Calls Tryd.prog 57 #[.int .i64 n] w fun e w' => e = .returned (.int .i64 (n % 10007)) ∧ w' = w := by
  go_enter Tryd.func57, Tryd.ntmps57
  go_wp2
  go_ret
  exact ⟨ret_int (red_I n), rfl⟩

end Go.Proofs.YtnciibngcaajgaaDoor
/- Apply: The contracts of ApplyOp, the program's and the model's, and the walk of the law on it. -/
namespace Go.Proofs.YtnciibngcaajgaaDoor
open Go Go.RowKit

def bit (x : Bool) : Int := if x then 1 else 0
/-- What an operation gives at two numbers of the language. -/
def apOp (op : ByteArray) (a b : Int) : Int × Bool :=
  if op.toList == [43] then ((a + b) % 10007, true)
  else if op.toList == [45] then ((a - b) % 10007, true)
  else if op.toList == [42] then ((a * b) % 10007, true)
  else if op.toList == [61] then (bit (a == b), true)
  else if op.toList == [60] then (bit (decide (a < b)), true)
  else if op.toList == [38] then (bit (a == 1 && b == 1), true)
  else if op.toList == [124] then (bit (a == 1 || b == 1), true)
  else if op.toList == [33] then (bit (a == 0), true)
  else (0, false)
def ap (op : ByteArray) (a b : Int) : Int × Bool := if 0 ≤ a ∧ a < 10007 ∧ 0 ≤ b ∧ b < 10007 then apOp op a b else (0, false)
def pairOf (p : Int × Bool) : Value := .tuple #[.int .i64 p.1, .bool p.2]

theorem in_any (n lo hi : Int) (w : World) : Calls Tryd.prog 63 #[.int .i64 n, .int .i64 lo, .int .i64 hi] w fun e w' => e = .returned (.bool (decide (lo ≤ n ∧ n ≤ hi))) ∧ w' = w := by
  obtain ⟨r, hr⟩ : ∃ r, r = decide (lo ≤ n ∧ n ≤ hi) := ⟨_, rfl⟩
  rw [← hr]
  by_cases h : lo ≤ n
  · have e : decide (n ≤ hi) = r := by rw [hr]; simp [h]
    have t : decide (lo ≤ n) = true := by simpa using h
    have E := Lib.hid e
    clear e hr
    go_enter Tryd.func63, Tryd.ntmps63
    go_wp2
    go_ret
    exact ⟨by rw [← E.out]; rfl, rfl⟩
  · have e : false = r := by rw [hr]; simp [h]
    have t : decide (lo ≤ n) = false := by simpa using h
    subst e
    clear hr
    go_enter Tryd.func63, Tryd.ntmps63
    go_wp2
    go_ret
    exact ⟨rfl, rfl⟩

/-- One of the numbers of the language. -/
def Num (a : Int) : Prop := 0 ≤ a ∧ a < 10007
theorem redI_num (a : Int) (w : World) (h : Num a) : Calls Tryd.prog 57 #[.int .i64 a] w fun e w' => e = .returned (.int .i64 a) ∧ w' = w := by
  have h1 := redI_any a w
  rw [show a % 10007 = a from Int.emod_eq_of_lt h.1 h.2] at h1
  exact h1
theorem redI_not (a : Int) (w : World) (h : ¬ Num a) : Calls Tryd.prog 57 #[.int .i64 a] w fun e w' => ∃ r : Int, (a != r) = true ∧ e = .returned (.int .i64 r) ∧ w' = w :=
  (redI_any a w).mono fun e w' ⟨he, hw⟩ => ⟨a % 10007, by
    rw [bne_iff_ne]
    intro hc
    exact h ⟨by omega, by omega⟩, he, hw⟩

theorem mul_in {a b : Int} (ha : 0 ≤ a) (ha1 : a < 10007) (hb : 0 ≤ b) (hb1 : b < 10007) : wrap64 (a * b) = a * b := by
  have h1 := Int.mul_nonneg ha hb
  have h2 := Int.mul_le_mul (show a ≤ 10006 by omega) (show b ≤ 10006 by omega) hb (by decide)
  unfold wrap64
  omega

theorem in_num (a : Int) (w : World) (h : Num a) : Calls Tryd.prog 63 #[.int .i64 a, .int .i64 0, .int .i64 10006] w fun e w' => e = .returned (.bool true) ∧ w' = w := by
  have h1 := in_any a 0 10006 w
  rw [show decide (0 ≤ a ∧ a ≤ 10006) = true from decide_eq_true ⟨h.1, by have := h.2; omega⟩] at h1
  exact h1
theorem in_not (a : Int) (w : World) (h : ¬ Num a) : Calls Tryd.prog 63 #[.int .i64 a, .int .i64 0, .int .i64 10006] w fun e w' => e = .returned (.bool false) ∧ w' = w := by
  have h1 := in_any a 0 10006 w
  rw [show decide (0 ≤ a ∧ a ≤ 10006) = false from decide_eq_false (fun hc => h ⟨hc.1, by have := hc.2; omega⟩)] at h1
  exact h1

end Go.Proofs.YtnciibngcaajgaaDoor
/- StrEq: Comparing strings, of no program: what the walk's test says. -/
namespace Go.Proofs.YtnciibngcaajgaaDoor
open Go

theorem str_inj {a b : ByteArray} (h : a.toList = b.toList) : a = b := by
  rw [ByteArray.toList_eq, ByteArray.toList_eq] at h
  obtain ⟨⟨a⟩⟩ := a
  obtain ⟨⟨b⟩⟩ := b
  rw [show a = b from h]
theorem str_yes {a b : ByteArray} (h : a = b) : (a.toList == b.toList) = true := by rw [h]; simp
theorem str_no {a b : ByteArray} (h : ¬ a = b) : (a.toList == b.toList) = false := by
  rw [beq_eq_false_iff_ne]
  exact fun hc => h (str_inj hc)
end Go.Proofs.YtnciibngcaajgaaDoor
/- IsName: The contracts of IsName, the program's and the model's, and the walk of the law on it. -/
namespace Go.Proofs.YtnciibngcaajgaaDoor
open Go Go.RowKit

/-- The k-th byte may stand there in a name. -/
def okAt (s : ByteArray) (k : Nat) : Prop := ∀ h : k < s.size, (97 ≤ (s[k]'h).toNat ∧ (s[k]'h).toNat ≤ 122) ∨ (1 ≤ k ∧ 48 ≤ (s[k]'h).toNat ∧ (s[k]'h).toNat ≤ 57)
def Res (s : ByteArray) : Prop := s.toList = [105, 102] ∨ s.toList = [108, 101, 116] ∨ s.toList = [108, 105, 102, 116] ∨ s.toList = [114, 101, 99] ∨ s.toList = [114, 117, 110]
structure Nm (s : ByteArray) : Prop where
  ok : ∀ k, okAt s k
  lo : 1 ≤ s.size
  hi : s.size ≤ 4
  free : ¬ Res s
def Tells (p : Prop) (w : World) (e : Ending) (w' : World) : Prop := ∃ r : Bool, (r = true ↔ p) ∧ e = .returned (.bool r) ∧ Below w.heap.size w w'
theorem tells_no {p : Prop} (h : ¬ p) : (false = true ↔ p) := ⟨fun hc => (by cases hc), fun hp => absurd hp h⟩
theorem tells_yes {p : Prop} (h : p) : (true = true ↔ p) := ⟨fun _ => h, fun _ => rfl⟩
theorem lst {a b : List UInt8} (h : (a == b) = true) : a = b := by simpa using h
theorem nlst {a b : List UInt8} (h : (a == b) = false) : a ≠ b := by simpa using h

set_option maxHeartbeats 400000 in
theorem res_any (s : ByteArray) (w : World) : Calls Tryd.prog 75 #[.string s] w (Tells (Res s) w) := by
  go_enter Tryd.func75, Tryd.ntmps75
  go_wp2
  all_goals
    go_ret
    first
    | exact ⟨true, tells_yes (by unfold Res; simp_all), rfl, Below.refl _ _⟩
    | exact ⟨false, tells_no (by unfold Res; simp_all), rfl, Below.refl _ _⟩

theorem res_0 {s : ByteArray} (h : s.toList = [105, 102]) : (s.toList == [105, 102]) = true ∧ (s.toList == [108, 101, 116]) = false ∧ (s.toList == [108, 105, 102, 116]) = false ∧ (s.toList == [114, 101, 99]) = false ∧ (s.toList == [114, 117, 110]) = false := by rw [h]; exact ⟨rfl, rfl, rfl, rfl, rfl⟩
theorem res_1 {s : ByteArray} (h : s.toList = [108, 101, 116]) : (s.toList == [105, 102]) = false ∧ (s.toList == [108, 101, 116]) = true ∧ (s.toList == [108, 105, 102, 116]) = false ∧ (s.toList == [114, 101, 99]) = false ∧ (s.toList == [114, 117, 110]) = false := by rw [h]; exact ⟨rfl, rfl, rfl, rfl, rfl⟩
theorem res_2 {s : ByteArray} (h : s.toList = [108, 105, 102, 116]) : (s.toList == [105, 102]) = false ∧ (s.toList == [108, 101, 116]) = false ∧ (s.toList == [108, 105, 102, 116]) = true ∧ (s.toList == [114, 101, 99]) = false ∧ (s.toList == [114, 117, 110]) = false := by rw [h]; exact ⟨rfl, rfl, rfl, rfl, rfl⟩
theorem res_3 {s : ByteArray} (h : s.toList = [114, 101, 99]) : (s.toList == [105, 102]) = false ∧ (s.toList == [108, 101, 116]) = false ∧ (s.toList == [108, 105, 102, 116]) = false ∧ (s.toList == [114, 101, 99]) = true ∧ (s.toList == [114, 117, 110]) = false := by rw [h]; exact ⟨rfl, rfl, rfl, rfl, rfl⟩
theorem res_4 {s : ByteArray} (h : s.toList = [114, 117, 110]) : (s.toList == [105, 102]) = false ∧ (s.toList == [108, 101, 116]) = false ∧ (s.toList == [108, 105, 102, 116]) = false ∧ (s.toList == [114, 101, 99]) = false ∧ (s.toList == [114, 117, 110]) = true := by rw [h]; exact ⟨rfl, rfl, rfl, rfl, rfl⟩
theorem res_no {s : ByteArray} (h : ¬ Res s) : (s.toList == [105, 102]) = false ∧ (s.toList == [108, 101, 116]) = false ∧ (s.toList == [108, 105, 102, 116]) = false ∧ (s.toList == [114, 101, 99]) = false ∧ (s.toList == [114, 117, 110]) = false := by
  unfold Res at h
  simp only [not_or] at h
  exact ⟨by simpa using h.1, by simpa using h.2.1, by simpa using h.2.2.1, by simpa using h.2.2.2.1, by simpa using h.2.2.2.2⟩
theorem at_zero {k : Nat} (h : k = 0) : ((k : Int) == 0) = true := by rw [h]; rfl
theorem at_more {k : Nat} (h : 1 ≤ k) : ((k : Int) == 0) = false := by rw [beq_eq_false_iff_ne]; omega
theorem ok_letter {s : ByteArray} {k : Nat} {hk : k < s.size} (h1 : 97 ≤ (s[k]'hk).toNat) (h2 : (s[k]'hk).toNat ≤ 122) : okAt s k := fun _ => Or.inl ⟨h1, h2⟩
theorem ok_digit {s : ByteArray} {k : Nat} {hk : k < s.size} (h0 : 1 ≤ k) (h1 : 48 ≤ (s[k]'hk).toNat) (h2 : (s[k]'hk).toNat ≤ 57) : okAt s k := fun _ => Or.inr ⟨h0, h1, h2⟩
theorem ok_bad {s : ByteArray} {k : Nat} {hk : k < s.size} (h1 : (s[k]'hk).toNat < 97 ∨ 122 < (s[k]'hk).toNat) (h2 : k = 0 ∨ (s[k]'hk).toNat < 48 ∨ 57 < (s[k]'hk).toNat) : ¬ Nm s := fun h => by
  have := h.ok k hk
  omega
theorem ok_next {s : ByteArray} {k : Nat} (h : ∀ j, j < k → okAt s j) (h1 : okAt s k) : ∀ j, j < k + 1 → okAt s j := fun j hj => by
  by_cases e : j = k
  · rw [e]; exact h1
  · exact h j (by omega)
theorem ok_end {s : ByteArray} {k : Nat} (h : ∀ j, j < k → okAt s j) (hk : s.size ≤ k) : ∀ j, okAt s j := fun j => by
  by_cases e : j < k
  · exact h j e
  · exact fun hj => absurd hj (by omega)

set_option maxRecDepth 100000 in
set_option maxHeartbeats 1000000 in
theorem nmS_any (s : ByteArray) (w : World) (hs : s.size ≤ 9223372036854775807) : Calls Tryd.prog 83 #[.string s] w (Tells (Nm s) w) := by
  go_enter Tryd.func83, Tryd.ntmps83
  go_wp2_with fail
  go_loop [3] (fun i => ∃ k : Nat, k ≤ s.size ∧ i = .int .i64 k ∧ Hid (∀ j, j < k → okAt s j)) (fun i => s.size - (intOf i).toNat)
  case atStart => exact ⟨0, Nat.zero_le _, rfl, Lib.hid (fun j hj => absurd hj (Nat.not_lt_zero j))⟩
  case round =>
    obtain ⟨k, hk, rfl, HK⟩ := hrel
    by_cases hlk : k < s.size
    · by_cases hlet : 97 ≤ s[k].toNat ∧ s[k].toNat ≤ 122
      · obtain ⟨l1, l2⟩ := hlet
        have HN := Lib.hid (ok_next HK.out (ok_letter l1 l2))
        go_wp2_with fail
        go_round
        case rel => exact ⟨k + 1, by omega, by go_num, HN⟩
        case measure => simp [intOf]; omega
      · by_cases hdig : 1 ≤ k ∧ 48 ≤ s[k].toNat ∧ s[k].toNat ≤ 57
        · obtain ⟨d0, d1, d2⟩ := hdig
          have HN := Lib.hid (ok_next HK.out (ok_digit d0 d1 d2))
          have t := at_more d0
          clear hlet
          go_wp2_with fail
          go_round
          case rel => exact ⟨k + 1, by omega, by go_num, HN⟩
          case measure => simp [intOf]; omega
        · have HN := Lib.hid (ok_bad (s := s) (k := k) (hk := hlk) (by omega) (by omega))
          rcases (show s[k].toNat < 97 ∨ 122 < s[k].toNat by omega) with b1 | b1
          all_goals rcases (show k = 0 ∨ (1 ≤ k ∧ s[k].toNat < 48) ∨ (1 ≤ k ∧ 57 < s[k].toNat) by omega) with b2 | ⟨b2, b3⟩ | ⟨b2, b3⟩
          all_goals clear hdig hlet
          · subst b2
            have t2 : decide ((97 : Int) ≤ (s[0].toNat : Int)) = false := by simp; omega
            go_wp2_with fail
            go_ret
            exact ⟨false, tells_no HN.out, rfl, Below.refl _ _⟩
          · have t := at_more b2
            have t2 : decide ((97 : Int) ≤ (s[k].toNat : Int)) = false := by simp; omega
            go_wp2_with fail
            go_ret
            exact ⟨false, tells_no HN.out, rfl, Below.refl _ _⟩
          · have t := at_more b2
            have t2 : decide ((97 : Int) ≤ (s[k].toNat : Int)) = false := by simp; omega
            go_wp2_with fail
            go_ret
            exact ⟨false, tells_no HN.out, rfl, Below.refl _ _⟩
          · subst b2
            have t2 : decide ((s[0].toNat : Int) ≤ 122) = false := by simp; omega
            go_wp2_with fail
            go_ret
            exact ⟨false, tells_no HN.out, rfl, Below.refl _ _⟩
          · exfalso; omega
          · have t := at_more b2
            have t2 : decide ((s[k].toNat : Int) ≤ 122) = false := by simp; omega
            go_wp2_with fail
            go_ret
            exact ⟨false, tells_no HN.out, rfl, Below.refl _ _⟩
    · obtain rfl : k = s.size := by omega
      have HN := Lib.hid (ok_end HK.out (Nat.le_refl _))
      go_wp2_with fail
      refine (in_any _ _ _ _).mono ?_
      rintro e w1 ⟨rfl, rfl⟩
      by_cases hsz : 1 ≤ s.size ∧ s.size ≤ 4
      · have t : decide (1 ≤ (s.size : Int) ∧ (s.size : Int) ≤ 4) = true := decide_eq_true (by omega)
        rw [t]
        clear t
        by_cases hres : Res s
        · have HX := Lib.hid (show ¬ Nm s from fun h => h.free hres)
          rcases hres with h | h | h | h | h
          · obtain ⟨t1, t2, t3, t4, t5⟩ := res_0 h
            clear h
            go_wp2_with fail
            go_ret
            exact ⟨false, tells_no HX.out, rfl, Below.refl _ _⟩
          · obtain ⟨t1, t2, t3, t4, t5⟩ := res_1 h
            clear h
            go_wp2_with fail
            go_ret
            exact ⟨false, tells_no HX.out, rfl, Below.refl _ _⟩
          · obtain ⟨t1, t2, t3, t4, t5⟩ := res_2 h
            clear h
            go_wp2_with fail
            go_ret
            exact ⟨false, tells_no HX.out, rfl, Below.refl _ _⟩
          · obtain ⟨t1, t2, t3, t4, t5⟩ := res_3 h
            clear h
            go_wp2_with fail
            go_ret
            exact ⟨false, tells_no HX.out, rfl, Below.refl _ _⟩
          · obtain ⟨t1, t2, t3, t4, t5⟩ := res_4 h
            clear h
            go_wp2_with fail
            go_ret
            exact ⟨false, tells_no HX.out, rfl, Below.refl _ _⟩
        · have HX := Lib.hid (show Nm s from ⟨HN.out, hsz.1, hsz.2, hres⟩)
          obtain ⟨t1, t2, t3, t4, t5⟩ := res_no hres
          clear hres
          go_wp2_with fail
          go_ret
          exact ⟨true, tells_yes HX.out, rfl, Below.refl _ _⟩
      · have t : decide (1 ≤ (s.size : Int) ∧ (s.size : Int) ≤ 4) = false := decide_eq_false (by omega)
        rw [t]
        clear t
        have HZ := Lib.hid (show ¬ Nm s from fun h => hsz ⟨h.lo, h.hi⟩)
        clear hsz
        go_wp2_with fail
        go_ret
        exact ⟨false, tells_no HZ.out, rfl, Below.refl _ _⟩
end Go.Proofs.YtnciibngcaajgaaDoor
/- TmNode: The contracts of the model's OpArity, l5Arity, l5Zero, l5Names: what a node of a term must be. -/
namespace Go.Proofs.YtnciibngcaajgaaDoor
open Go Go.RowKit

def opAr (l : List UInt8) : Int :=
  if l = [43] then 2 else if l = [45] then 2 else if l = [42] then 2 else if l = [61] then 2 else if l = [60] then 2 else if l = [38] then 2 else if l = [124] then 2 else if l = [33] then 1 else 0
theorem opAr_range (l : List UInt8) : 0 ≤ opAr l ∧ opAr l ≤ 2 := by
  unfold opAr
  repeat' split
  all_goals omega
/-- The number of parts of a node. -/
def arK (k o : Int) : Int :=
  if k = 1 then 0 else if k = 2 then 0 else if k = 3 then 0 else if k = 4 then o else if k = 6 then 1 else if k = 9 then 1 else if k = 10 then 1 else if k = 11 then 1 else if k = 12 then 1 else if k = 13 then 1 else if k = 7 then 2 else if k = 8 then 2 else if k = 5 then 3 else -1
def Tm.arity (t : Tm) : Int := arK t.kind (opAr t.name.toList)
theorem arK_range (k o : Int) (h : 0 ≤ o ∧ o ≤ 2) : -1 ≤ arK k o ∧ arK k o ≤ 3 := by
  unfold arK
  repeat' split
  all_goals omega

set_option maxRecDepth 100000 in
set_option maxHeartbeats 1000000 in
theorem opArS_any (s : ByteArray) (w : World) : Calls Tryd.prog 19 #[.string s] w fun e w' => e = .returned (.int .i64 (opAr s.toList)) ∧ w' = w := by
  go_enter Tryd.func19, Tryd.ntmps19
  go_wp2
  all_goals
    go_ret
    exact ⟨by unfold opAr; simp_all, rfl⟩

set_option maxRecDepth 100000 in
set_option maxHeartbeats 2000000 in
theorem arityS_any (t : Tm) (tp : Option Addr) (tc : Nat) (rp : Option Addr) (rc : Nat) (p : Option Addr) (c : Nat) (w : World) :
    Calls Tryd.prog 37 #[tmV t tp tc rp rc p c] w fun e w' => e = .returned (.int .i64 t.arity) ∧ Below w.heap.size w w' := by
  have HB := Lib.hid (al_below w (.cells (tmC t tp tc rp rc p c) 29))
  go_enter Tryd.func37, Tryd.ntmps37
  go_wp2_with (first | (go_at_call 19; refine (opArS_any _ _).mono ?_; rintro e w' ⟨rfl, rfl⟩))
  all_goals
    go_ret
    exact ⟨by unfold Tm.arity arK; simp_all, HB.out⟩

set_option maxRecDepth 100000 in
set_option maxHeartbeats 1000000 in
theorem zeroS_any (k : Int) (p : Option Addr) (n c : Nat) (w : World) : Calls Tryd.prog 62 #[.agg #[.int .i64 k, .slice p n c]] w (Tells (k = 0 ∧ n = 0) w) := by
  have HB := Lib.hid (al_below w (.cells #[.int .i64 k, .slice p n c] 26))
  go_enter Tryd.func62, Tryd.ntmps62
  by_cases hk : k = 0
  · subst hk
    go_wp2_with fail
    go_ret
    exact ⟨_, by simp, rfl, HB.out⟩
  · have hk1 : (k == 0) = false := by simpa using hk
    go_wp2_with fail
    go_ret
    exact ⟨_, by simp [hk], rfl, HB.out⟩

/-- The names are those that the kind asks for. -/
def Tm.namesOk (t : Tm) : Prop :=
  if t.kind = 4 then 0 < opAr t.name.toList ∧ t.other.toList = [] else if t.kind = 1 ∨ t.kind = 6 ∨ t.kind = 8 then Nm t.name ∧ t.other.toList = []
  else if t.kind = 9 then Nm t.name ∧ Nm t.other ∧ t.name ≠ t.other else t.name.toList = [] ∧ t.other.toList = []
theorem emp_cases (s : ByteArray) : (s.toList = [] ∧ s.toList.isEmpty = true) ∨ (¬ s.toList = [] ∧ s.toList.isEmpty = false) := by
  cases h : s.toList <;> simp
end Go.Proofs.YtnciibngcaajgaaDoor
