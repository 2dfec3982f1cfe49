/-
  The contract of the laws' toTypeS and toType: the same type, in rows of the call's own.
-/
import Derived.Test.YtfeijijeohfpgaaDoorOwnT
namespace Go.Proofs.YtfeijijeohfpgaaDoor
open Go Go.RowKit

/-- A new type: the same as t, in blocks that were not there. -/
def NewT (t : Ty) (w : World) (e : Ending) (w' : World) : Prop := ∃ v, e = .returned v ∧ OT w' t v (fun g => w.heap.size ≤ g ∧ g < w'.heap.size) ∧ Below w.heap.size w w'
def NewTS (ts : List Ty) (w : World) (e : Ending) (w' : World) : Prop := ∃ v, e = .returned v ∧ OS w' ts v (fun g => w.heap.size ≤ g ∧ g < w'.heap.size) ∧ Below w.heap.size w w'

theorem blk_new (w : World) (o : Obj) : (w.alloc o).heap[w.heap.size]? = some o := by
  show (w.heap.push o)[w.heap.size]? = _
  simp
theorem results_cell1 {fn : Func} {p : Tmp} {ty : TypeId} (h : fn.results = #[.cell p ty]) (tmps : Array Value) (P : Program) (w : World) :
    (results fn tmps).run P w = ((asAddr (tmps.getD p undef)).run P w).andThen fun a w₁ => (loadVar ty a).run P w₁ := by
  simp only [results, h]
  simp [Sem.run_bind, Result.andThen]

theorem blocks3 (w w1 : World) (A B C : Array Value) (tA tB tC : TypeId) (h : Below (((w.alloc (.cells A tA)).alloc (.cells B tB)).alloc (.cells C tC)).heap.size (((w.alloc (.cells A tA)).alloc (.cells B tB)).alloc (.cells C tC)) w1) :
    w1.heap[w.heap.size + 1]? = some (.cells B tB (0, 0)) ∧ w1.heap[w.heap.size + 1 + 1]? = some (.cells C tC (0, 0)) := by
  have s1 : (w.alloc (.cells A tA)).heap.size = w.heap.size + 1 := by simp
  have s2 : ((w.alloc (.cells A tA)).alloc (.cells B tB)).heap.size = w.heap.size + 1 + 1 := by simp
  constructor
  · rw [h.block _ (by simp), Below.heap_alloc _ _ _ (by simp), ← s1]
    exact blk_new _ _
  · rw [h.block _ (by simp), ← s2]
    exact blk_new _ _
theorem cell_of_blk {w : World} {g : Nat} {cs : Array Value} {t : TypeId} {fr : Nat × Nat} (h : w.heap[g]? = some (.cells cs t fr)) (i : Nat) : w.cell? ⟨g, i, none⟩ = cs[i]? := by simp [World.cell?, h]
theorem unfrozen_of_blk {w : World} {g : Nat} {cs : Array Value} {t : TypeId} (h : w.heap[g]? = some (.cells cs t (0, 0))) (i : Nat) : w.frozen? ⟨g, i, none⟩ = false := by simp [World.frozen?, h]

theorem newT_done {k : Int} {ts : List Ty} {w W w1 : World} {n q : Nat} {p : Option Addr} {i1 i2 i3 : Nat} {v1 v2 v3 : Value} (ho : OS w1 ts (.slice p n q) (fun g => W.heap.size ≤ g ∧ g < w1.heap.size)) (hb : Below w.heap.size w w1)
    (hW : w.heap.size + 1 + 1 < W.heap.size) :
    NewT (.mk k ts) w (.returned (.agg #[.int .i64 k, .slice p n q])) (((w1.setCell ⟨w.heap.size + 1 + 1, i1, none⟩ v1).setCell ⟨w.heap.size + 1, i2, none⟩ v2).setCell ⟨w.heap.size + 1, i3, none⟩ v3) := by
  have hs : (((w1.setCell ⟨w.heap.size + 1 + 1, i1, none⟩ v1).setCell ⟨w.heap.size + 1, i2, none⟩ v2).setCell ⟨w.heap.size + 1, i3, none⟩ v3).heap.size = w1.heap.size := by simp [World.setCell]
  refine ⟨_, rfl, ⟨_, rfl, OS.mono (ho.stays (((setCell_stays _ _ _ _ _ (by omega)).trans (setCell_stays _ _ _ _ _ (by omega))).trans (setCell_stays _ _ _ _ _ (by omega)))) (fun b hb => ?_)⟩, ((hb.setCell (p := ⟨w.heap.size + 1 + 1, i1, none⟩) (by show w.heap.size ≤ w.heap.size + 1 + 1; omega) _).setCell (p := ⟨w.heap.size + 1, i2, none⟩) (by show w.heap.size ≤ w.heap.size + 1; omega) _).setCell (p := ⟨w.heap.size + 1, i3, none⟩) (by show w.heap.size ≤ w.heap.size + 1; omega) _⟩
  rw [hs]
  omega

set_option maxRecDepth 100000 in
set_option maxHeartbeats 1000000 in
theorem toT_of (k : Int) (p : Option Addr) (l c : Nat) (ts : List Ty) (w : World)
    (h : ∀ w', Below w.heap.size w w' → Calls Tryd.prog 58 #[.slice p l c] w' (NewTS ts w')) :
    Calls Tryd.prog 33 #[.agg #[.int .i64 k, .slice p l c]] w (NewT (.mk k ts) w) := by
  have HH := Lib.hid h
  have HB := Lib.hid ((((Below.refl w.heap.size w).alloc (Nat.le_refl _) (Obj.cells #[.int .i64 k, .slice p l c] 24)).alloc (by simp) (Obj.cells #[.int .i64 0, .slice none 0 0] 32)).alloc (by simp; omega) (Obj.cells #[.int .i64 k, .slice none 0 0] 32))
  clear h
  go_enter Tryd.func33, Tryd.ntmps33
  go_wp2_with fail
  refine (HH.out _ HB.out).mono ?_
  rintro e w1 ⟨s, rfl, ho, hb1⟩
  obtain ⟨b1, b2⟩ := blocks3 _ _ _ _ _ _ _ _ hb1
  have c10 := cell_of_blk b1 0
  have c11 := cell_of_blk b1 1
  have c20 := cell_of_blk b2 0
  have c21 := cell_of_blk b2 1
  have z1 := unfrozen_of_blk b1
  have z2 := unfrozen_of_blk b2
  simp only [List.getElem?_toArray, List.getElem?_cons_zero, List.getElem?_cons_succ] at c10 c11 c20 c21
  obtain ⟨p', q', hf⟩ := ho.form
  subst hf
  have HO := Lib.hid ho
  have HB1 := Lib.hid (HB.out.trans (hb1.mono HB.out.size))
  clear ho hb1 b1 b2
  go_wp2_with fail
  refine bodyPost_ret (v := .agg #[.int .i64 k, .slice p' ts.length q']) ?_ rfl ?_
  · rw [results_cell1 rfl]
    go_simp
  · exact newT_done HO.out HB1.out (by simp)

/-- The zero type, as often as is asked. -/
theorem zeros_at (n j : Nat) (h : j < n) : (madeCells (#[Value.int .i64 0, Value.slice none 0 0]) (n * 2)).toList[j * 2]? = some (.int .i64 0) ∧ (madeCells (#[Value.int .i64 0, Value.slice none 0 0]) (n * 2)).toList[j * 2 + 1]? = some (.slice none 0 0) := by
  have h1 : j * 2 < n * 2 := by omega
  have h2 : j * 2 + 1 < n * 2 := by omega
  have e2 : (j * 2 + 1) % 2 = 1 := by omega
  constructor
  · simp [madeCells, h1]
  · simp [madeCells, h2, e2]

set_option maxRecDepth 100000 in
set_option maxHeartbeats 1000000 in
theorem toS_any {w0 : World} {C : Nat → Prop} {ts : List Ty} {v : Value} (h : TS w0 C ts v) : ∀ (w : World), Stays C w0 w → nodesS ts ≤ 1048576 →
    Calls Tryd.prog 58 #[v] w (NewTS ts w) := by
  obtain ⟨i0, hi, hz0, hz1, hz2⟩ := info_parts infoTy
  induction h with
  | nil a c =>
    intro w hst hn
    go_enter Tryd.func58, Tryd.ntmps58
    go_wp2_with (at_make; refine wpList_make_full _ rfl _ _ 30 rfl w.heap.size 32 i0 (.agg #[.int .i64 0, .slice none 0 0]) 2 Tryd.underlying30 hi hz0 hz1 .i64 .i64 _ _ 0 rfl rfl rfl rfl ?c1 ?c2 ?c3 ?_)
    case c1 => omega
    case c2 => unfold maxLen; omega
    case c3 => exact Nat.le_refl _
    intro w1 hown0 hg
    have hb1 : Below w.heap.size w w1 := (Below.refl _ _).grown hg (Nat.le_refl _) (fun k h => by cases h)
    have ho := (Row.of_owns (K := fun _ => 0) (S := fun _ => .slice none 0 0) hown0 (fun j hj => by omega)).1
    have HO := Lib.hid (Fill.start (ts := []) ho)
    clear hown0 hg ho
    go_wp2_with fail
    go_loopw [4] (fun i wr => i = .int .i64 0 ∧ wr = w1) (fun _ _ => 0)
    case atStart => exact ⟨rfl, rfl⟩
    case round =>
      obtain ⟨rfl, rfl⟩ := hrel
      go_wp2_with fail
      go_ret
      exact ⟨_, rfl, HO.out.full (by unfold maxLen; omega), hb1⟩
  | @cons ts b o c S h1 hc hm hC hb hk hs hr ih =>
    intro w hst hn
    have hlen := nodesS_ge ts
    have HIH := Lib.hid ih
    have HST := Lib.hid hst
    have HK := Lib.hid (fun j x (e : ts[j]? = some x) (w' : World) (hw : Stays C w0 w') => (World.cell?_of_block (w := w0) (a := ⟨b, o + j * 2, none⟩) (hw.2 b hC hb)).trans (hk j x e))
    have HS := Lib.hid (fun j x (e : ts[j]? = some x) (w' : World) (hw : Stays C w0 w') => (World.cell?_of_block (w := w0) (a := ⟨b, o + j * 2 + 1, none⟩) (hw.2 b hC hb)).trans (hs j x e))
    have HF := Lib.hid (fun j x (e : ts[j]? = some x) => (hr j x e).form)
    clear hk hs hr ih hst hC hb
    go_enter Tryd.func58, Tryd.ntmps58
    go_wp2_with (at_make; refine wpList_make_full _ rfl _ _ 30 rfl w.heap.size 32 i0 (.agg #[.int .i64 0, .slice none 0 0]) 2 Tryd.underlying30 hi hz0 hz1 .i64 .i64 _ _ ts.length rfl rfl rfl rfl ?c1 ?c2 ?c3 ?_)
    case c1 => rw [hz2]; omega
    case c2 => unfold maxLen; omega
    case c3 => exact Nat.le_refl _
    intro w1 hown0 hg
    have hb1 : Below w.heap.size w w1 := (Below.refl _ _).grown hg (Nat.le_refl _) (fun k h => by cases h)
    have ho := (Row.of_owns (K := fun _ => 0) (S := fun _ => .slice none 0 0) hown0 (fun j hj => zeros_at _ j hj)).1
    have HO := Lib.hid (Fill.start (ts := ts) ho)
    clear hown0 hg ho
    go_wp2_with fail
    go_loopw [4] (fun i wr => ∃ k : Nat, k ≤ ts.length ∧ i = .int .i64 k ∧ Fill wr w.heap.size ts.length ts.length ts k ∧ Below w.heap.size w wr) (fun i _ => ts.length - (intOf i).toNat)
    case atStart => exact ⟨0, Nat.zero_le _, rfl, HO.out, hb1⟩
    case round =>
      obtain ⟨k, hk, rfl, hfill, hbr⟩ := hrel
      have HFI := Lib.hid hfill
      have HB := Lib.hid hbr
      have HSR := Lib.hid (HST.out.trans (Stays.of_below (C := C) hbr))
      clear hb1 hfill hbr
      by_cases hlk : k < ts.length
      · have e := List.getElem?_eq_getElem hlk
        have c1 := HK.out k _ e wr HSR.out
        have c2 := HS.out k _ e wr HSR.out
        obtain ⟨p, q, hf⟩ := HF.out k _ e
        have hnk := nodesS_at ts k hlk
        have HC := Lib.hid (toT_of ts[k].kind p ts[k].args.length q ts[k].args wr (fun w' hw' => by
          have hh := HIH.out k _ e w' (HSR.out.trans (.of_below hw')) (by omega)
          rw [hf] at hh
          exact hh))
        rw [hf] at c2
        have HE := Lib.hid e
        clear e hf hnk
        go_wp2_with fail
        refine HC.out.mono ?_
        rintro e w2 ⟨v, rfl, ⟨s, rfl, hos⟩, hb2⟩
        obtain ⟨p2, q2, hf2⟩ := hos.form
        simp only [Ty.args_mk] at hos hf2
        subst hf2
        have hlt := Nat.lt_of_lt_of_le HFI.out.lt hb2.size
        obtain ⟨hrow, hgo⟩ := HFI.out.next2 hb2 HE.out hos hlk
        obtain ⟨⟨q3, x1⟩, ⟨q4, x2⟩⟩ := hrow
        have z1 := fun i => HFI.out.frz hb2 i
        have HN := Lib.hid hgo
        have HB2 := Lib.hid (((HB.out.trans (hb2.mono HB.out.size)).setCell (p := ⟨w.heap.size, k * 2, none⟩) (Nat.le_refl _) (.int .i64 ts[k].kind)).setCell (p := ⟨w.heap.size, k * 2 + 1, none⟩) (Nat.le_refl _) (.slice p2 ts[k].args.length q2))
        clear hgo hos hb2
        go_wp2_with fail
        go_roundw
        case rel => exact ⟨k + 1, by omega, by go_num, HN.out, HB2.out⟩
        case measure => simp [intOf]; omega
      · obtain rfl : k = ts.length := by omega
        go_wp2_with fail
        go_ret
        exact ⟨_, rfl, HFI.out.full (by unfold maxLen; omega), HB.out⟩
/-- THE LAWS' toType, AT EVERY TYPE. -/
theorem toT_any {C : Nat → Prop} {t : Ty} {v : Value} {w : World} (h : TT w C t v) (hn : nodesS t.args ≤ 1048576) : Calls Tryd.prog 33 #[v] w (NewT t w) := by
  obtain ⟨s, rfl, h⟩ := h
  obtain ⟨p, c, rfl⟩ := h.form
  have := toT_of t.kind p t.args.length c t.args w (fun w' hb => toS_any h w' (.of_below hb) hn)
  cases t
  exact this
#print axioms toT_any
end Go.Proofs.YtfeijijeohfpgaaDoor

