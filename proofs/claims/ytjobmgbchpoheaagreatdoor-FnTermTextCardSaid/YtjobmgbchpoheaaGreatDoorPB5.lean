/-
  Several texts of the proof in one (each says below what it holds): SpecCopy OpenT TyMark EraseTypeLaw DrawT1.
-/
import Derived.Test.YtjobmgbchpoheaaGreatDoorPB4
import Derived.Test.YtjobmgbchpoheaaGreatDoorPB1
import Derived.Lib.SmallJoins
import Derived.Deep.RegionWith
namespace Go.Proofs.YtjobmgbchpoheaaGreatDoor
open Go Go.RowKit

set_option maxRecDepth 100000 in
set_option maxHeartbeats 2000000 in
theorem copySp_any {w0 : World} {C : Nat → Prop} {ts : List Ty} {v : Value} (h : TS w0 C ts v) : ∀ (w : World) (q : Int), Stays C w0 w → nodesS ts ≤ 1048576 →
    Calls Tryz.prog 121 #[.agg #[.int .i64 q, v]] w (NewR (Ty.mk q ts) w) := by
  obtain ⟨i0, hi, hz0, hz1, hz2⟩ := info_parts infoTy
  refine TS.ind (motive := fun ts v => ∀ (w : World) (q : Int), Stays C w0 w → nodesS ts ≤ 1048576 → Calls Tryz.prog 121 #[.agg #[.int .i64 q, v]] w (NewR (Ty.mk q ts) w)) ?_ h
  intro ts p c hl H w q hst hn
  have HH := Lib.hid H
  have HST := Lib.hid hst
  have hlen := nodesS_ge ts
  clear H hst
  go_enter Tryz.func121, Tryz.ntmps121
  have HB0 := Lib.hid ((((Below.refl _ w).alloc (Nat.le_refl _) (.cells #[.int .i64 q, .slice p ts.length c] 26)).alloc (by simp) (.cells #[.int .i64 0, .slice none 0 0] 26)).alloc (by simp; omega) (.cells #[.int .i64 q, .slice none 0 0] 26))
  have hK := loop_world3 w #[.int .i64 q, .slice p ts.length c] #[.int .i64 0, .slice none 0 0] #[.int .i64 q, .slice none 0 0] 26 26 26
  have HK := Lib.hid hK
  clear hK
  go_wp2_with fail
  go_loopw [4] (fun i wr => ∃ (k : Nat) (es : Got) (v : Value), k ≤ ts.length ∧ i = .int .i64 k ∧ es.map (·.1) = ts.take k ∧ Grow wr (w.heap.size + 3) v es ∧ wr.heap[w.heap.size]? = some (.cells #[.int .i64 q, .slice p ts.length c] 26 (0, 0)) ∧
    wr.heap[w.heap.size + 1]? = some (.cells #[.int .i64 0, .slice none 0 0] 26 (0, 0)) ∧ wr.heap[w.heap.size + 1 + 1]? = some (.cells #[.int .i64 q, v] 26 (0, 0)) ∧ Below w.heap.size w wr ∧ w.heap.size + 3 ≤ wr.heap.size) (fun i _ => ts.length - (intOf i).toNat)
  case atStart =>
    obtain ⟨wl, hwl, hsz, hbl, q0, q1, q2⟩ := HK.out
    rw [hwl]
    exact ⟨0, [], _, Nat.zero_le _, rfl, by simp, Grow.start _ _, q0, q1, q2, hbl, by omega⟩
  case round =>
    obtain ⟨k, es, v, hk, rfl, hes, hgr, hx0, hx1, hx2, hbr, hsz⟩ := hrel
    have HES := Lib.hid hes
    have HGR := Lib.hid hgr
    have HX0 := Lib.hid hx0
    have HX1 := Lib.hid hx1
    have HX2 := Lib.hid hx2
    have HBR := Lib.hid hbr
    have d0 := cell_of_blk hx0 1
    have d2 := cell_of_blk hx2 0
    have d3 := cell_of_blk hx2 1
    have dz := unfrozen_of_blk hx2
    have r0 := cell_of_blk hx1 0
    have r1 := cell_of_blk hx1 1
    have rz := unfrozen_of_blk hx1
    simp only [List.getElem?_toArray, List.getElem?_cons_zero, List.getElem?_cons_succ] at d0 d2 d3 r0 r1
    clear hes hgr hx0 hx1 hx2 hbr
    by_cases hlk : k < ts.length
    · obtain ⟨b, o, p', c', rfl, hcs, hT, hI⟩ := HH.out k _ (List.getElem?_eq_getElem hlk)
      obtain ⟨f1, f2⟩ := hcs wr (HST.out.trans (Stays.of_below HBR.out))
      have hnk : nodesS ts[k].args ≤ 1048576 := by
        have h1 := nodesS_at ts k hlk
        have h2 := ts[k].nodes_eq
        omega
      have HC := Lib.hid (fun (W : World) (hW : Below w.heap.size w W) => hI W ts[k].kind (HST.out.trans (Stays.of_below hW)) hnk)
      rw [show Ty.mk ts[k].kind ts[k].args = ts[k] from (Ty.eta _).symm] at HC
      have HG := Lib.hid (fun (W : World) (hW : Below wr.drew.heap.size wr.drew W) => HGR.out.below ((Below.refl wr.heap.size wr).drew.trans hW))
      have HD := Lib.hid (fun (W : World) (hW : Below wr.drew.heap.size wr.drew W) => (cell_of_blk ((((Below.refl wr.heap.size wr).drew.trans hW).block _ (Array.getElem?_eq_some_iff.1 HX2.out).1).trans HX2.out) 1 : W.cell? ⟨w.heap.size + 1 + 1, 1, none⟩ = some v))
      have HDZ := Lib.hid (fun (W : World) (hW : Below wr.drew.heap.size wr.drew W) => unfrozen_of_blk ((((Below.refl wr.heap.size wr).drew.trans hW).block _ (Array.getElem?_eq_some_iff.1 HX2.out).1).trans HX2.out))
      have hek : es.length = k := by
        have := congrArg List.length HES.out
        simp only [List.length_map, List.length_take] at this
        omega
      have HEK := Lib.hid hek
      have hbr' := HBR.out
      have hbw : b < w.heap.size := World.block_lt_of_cell? w _ (hcs w HST.out).1
      have HKA := Lib.hid (fun (W : World) (hW : Below wr.drew.heap.size wr.drew W) (x1 x2 : Value) (w' : World) (g2 cap2 : Nat) (hA : Appd W w' (w.heap.size + 3) 26 2 v es.length (ecells es) [x1, x2] g2 cap2) =>
        have kk : ∀ {p : Addr} {u : Value}, wr.cell? p = some u → p.block < w.heap.size + 3 → w'.cell? p = some u := fun {p u} hp hlt =>
          keepApp hA (((((Below.refl wr.heap.size wr).drew.trans hW).cell (World.block_lt_of_cell? wr _ hp)).trans hp) : W.cell? p = some u) (fun e => by have := (HGR.out.own.lt _ e).1; omega)
        (⟨kk d0 (by show w.heap.size < _; omega), kk f1 (by show b < _; omega), kk f2 (by show b < _; omega)⟩ :
          w'.cell? ⟨w.heap.size, 1, none⟩ = some (.slice (some ⟨b, o, none⟩) ts.length c) ∧ w'.cell? ⟨b, o + k * 2, none⟩ = some (.int .i64 ts[k].kind) ∧ w'.cell? ⟨b, o + k * 2 + 1, none⟩ = some (.slice p' ts[k].args.length c')))
      have HKB := Lib.hid (fun (W : World) (hW : Below wr.drew.heap.size wr.drew W) (x1 x2 : Value) (w' : World) (g2 cap2 : Nat) (hA : Appd W w' (w.heap.size + 3) 26 2 v es.length (ecells es) [x1, x2] g2 cap2) =>
        have hB := (((Below.refl wr.heap.size wr).drew.trans hW).block _ (Array.getElem?_eq_some_iff.1 HX2.out).1).trans HX2.out
        (((hA.kept (w.heap.size + 1 + 1) (Array.getElem?_eq_some_iff.1 hB).1 (fun e => by have := (HGR.out.own.lt _ e).1; omega)).1.trans hB) : w'.heap[w.heap.size + 1 + 1]? = some (.cells #[.int .i64 q, v] 26 (0, 0))))
      have i0' : (0 : Int) ≤ (k : Int) := Int.natCast_nonneg _
      have i1' : (k : Int) < (ts.length : Int) := by omega
      clear hcs hT hI r0 r1 rz d2 hek
      go_wp2_with fail
      go_region_law (first
          | (refine step_app1 (w0 := w1) (v := v) (n := es.length) (xs := ecells es) rfl (.tmp 16) (.tmp 23) rfl Tryz.underlying24 hi hz0 hz1 hz2 rfl (by decide) rfl (HG.out w1 hb1).own _ rfl (by simp) rfl (fun u hu => by simp at hu; rcases hu with rfl | rfl <;> rfl) (by have := HEK.out; unfold maxLen; omega) (by have := HEK.out; omega) (by have := hb1.size; simp at this; omega) ?_; intro w' g2 cap2 hA; have d6b := HKB.out _ hb1 _ _ _ _ _ hA; have d6 : w'.cell? ⟨w.heap.size + 1 + 1, 1, none⟩ = some v := cell_of_blk d6b 1; have d6z := unfrozen_of_blk d6b)
          | (go_simp; go_at_call 121; refine (HC.out _ hbr'.drew).mono ?_; rintro e w1 ⟨v1, rfl, ⟨s1, rfl, hs1⟩, hb1⟩; obtain ⟨p1, c1, rfl⟩ := hs1.form; have d4 := HD.out w1 hb1; have d4z := HDZ.out w1 hb1; have d5 := fun (o : Obj) => (((Below.refl w1.heap.size w1).alloc (Nat.le_refl _) o).cell (World.block_lt_of_cell? w1 _ d4)).trans d4))
      all_goals
        have HA := Lib.hid hA
        have HS1 := Lib.hid hs1
        have HB1 := Lib.hid hb1
        clear hA hs1 hb1 d4 d4z d5 d6 d6b d6z
        go_wp2_with fail
        go_roundw
        case rel =>
          have hd := (Below.refl wr.heap.size wr).drew.trans HB1.out
          have hsw := hd.size
          have hown := HGR.out.own.lt
          have x0 := (hd.block _ (Array.getElem?_eq_some_iff.1 HX0.out).1).trans HX0.out
          have x1 := (hd.block _ (Array.getElem?_eq_some_iff.1 HX1.out).1).trans HX1.out
          have x0' := (HA.out.kept w.heap.size (Array.getElem?_eq_some_iff.1 x0).1 (fun e => by have := (hown _ e).1; omega)).1.trans x0
          have x1' := (HA.out.kept (w.heap.size + 1) (Array.getElem?_eq_some_iff.1 x1).1 (fun e => by have := (hown _ e).1; omega)).1.trans x1
          refine ⟨k + 1, es ++ [(ts[k], .slice p1 ts[k].args.length c1)], .slice (some ⟨g2, 0, none⟩) (es.length + 1) cap2, by omega, by go_num, ?_, ?_, ?_, ?_, ?_, ?_, ?_⟩
          · rw [List.map_append, HES.out, List.take_add_one, List.getElem?_eq_getElem hlk]
            rfl
          · refine ((HG.out w1 HB1.out).app HA.out (HS1.out.mono fun z hz _ => ⟨?_, fun e => ?_⟩)).set _ _ _ (by omega)
            · have : wr.heap.size ≤ z := hz
              omega
            · have h1 : wr.heap.size ≤ z := hz
              have h2 := (hown _ e).2
              omega
          · exact (Below.heap_setCell _ _ _ _ (by show w.heap.size ≠ w.heap.size + 1 + 1; omega)).trans x0'
          · exact (Below.heap_setCell _ _ _ _ (by show w.heap.size + 1 ≠ w.heap.size + 1 + 1; omega)).trans x1'
          · rw [Go.Joins.block_setCell (HKB.out _ HB1.out _ _ _ _ _ HA.out) _]
            rfl
          · exact (HBR.out.trans ((hd.mono HBR.out.size).trans (HA.out.below.mono (by omega)))).setCell (p := ⟨w.heap.size + 1 + 1, 1, none⟩) (by show w.heap.size ≤ w.heap.size + 1 + 1; omega) _
          · have := HA.out.size
            simp [World.setCell]
            omega
        case measure => simp [intOf]; omega
    · obtain rfl : k = ts.length := by omega
      have hT := HGR.out.all
      rw [HES.out, List.take_length] at hT
      obtain ⟨pv, cv, hv⟩ := hT.form
      rw [hv] at d3 hT
      have HT := Lib.hid hT
      clear hT hv HES HGR HX2
      go_wp2_with fail
      refine bodyPost_ret (v := .agg #[.int .i64 q, .slice pv ts.length cv]) ?_ rfl ?_
      · rw [results_cell1 rfl]
        go_simp
      · have hst : ∀ F : Nat → Prop, ¬ F (w.heap.size + 1) → Stays F wr ((wr.setCell ⟨w.heap.size + 1, 0, none⟩ (.int .i64 q)).setCell ⟨w.heap.size + 1, 1, none⟩ (.slice pv ts.length cv)) := fun F hF => (setCell_stays _ _ _ _ F hF).trans (setCell_stays _ _ _ _ F hF)
        refine ⟨_, rfl, ⟨_, rfl, (HT.out.stays (hst _ (by omega))).mono (fun b hb _ => by omega)⟩, (HBR.out.setCell (p := ⟨w.heap.size + 1, 0, none⟩) (by show w.heap.size ≤ w.heap.size + 1; omega) _).setCell (p := ⟨w.heap.size + 1, 1, none⟩) (by show w.heap.size ≤ w.heap.size + 1; omega) _⟩
end Go.Proofs.YtjobmgbchpoheaaGreatDoor
namespace Go.Proofs.YtjobmgbchpoheaaGreatDoor
open Go Go.ChangeShapes Go.WideShapes Go.RowKit

section
variable {H : Type} {enc : TypeId × Value → H} {w : World} {spare : Nat → Bool} {held : Bool}

end

end Go.Proofs.YtjobmgbchpoheaaGreatDoor
namespace Go.Proofs.YtjobmgbchpoheaaGreatDoor
open Go Go.RowKit

mutual
def Ty.mark : Nat → Ty → Ty
  | k, .mk _ ts => .mk k (markS (k + 1) ts)
def markS : Nat → List Ty → List Ty
  | _, [] => []
  | k, t :: ts => t.mark k :: markS (k + t.nodes) ts
end
structure But (F : Nat → Prop) (w w' : World) : Prop where
  size : w.heap.size ≤ w'.heap.size
  kept : ∀ b, b < w.heap.size → ¬ F b → w'.heap[b]? = w.heap[b]?
  below : ∀ base, base ≤ w.heap.size → (∀ b, F b → base ≤ b) → Below base w w'
structure MInv (w0 w wr : World) (k : Nat) (ts : List Ty) (b c : Nat) (K : Nat → Int) (S : Nat → Value) (G : Nat → Nat → Prop) (F : Nat → Prop) (j : Nat) : Prop where
  row : Row wr b ts.length c (fun i => if i < j then ((k + nodesS (ts.take i) : Nat) : Int) else K i) S
  done : ∀ i x, i < j → ts[i]? = some x → OS wr (markS (k + nodesS (ts.take i) + 1) x.args) (S i) (G i)
  rest : ∀ i, j ≤ i → i < ts.length → Stays (G i) w0 wr
  but : But F w wr

def Marked' (ts : List Ty) (v : Value) (F : Nat → Prop) (k : Nat) (w : World) (e : Ending) (w' : World) : Prop :=
  e = .returned (.int .i64 ((k + nodesS ts : Nat) : Int)) ∧ OS w' (markS k ts) v F ∧ But F w w'

end Go.Proofs.YtjobmgbchpoheaaGreatDoor
namespace Go.Proofs.YtjobmgbchpoheaaGreatDoor
open Go Go.RowKit
def Bx (w : World) (b : Nat) (k : Int) (s : Value) : Prop := w.cell? ⟨b, 0, none⟩ = some (.int .i64 k) ∧ w.cell? ⟨b, 1, none⟩ = some s
theorem Bx.lt {w : World} {b : Nat} {k : Int} {s : Value} (h : Bx w b k s) : b < w.heap.size := World.block_lt_of_cell? w _ h.1
theorem Bx.stays {w w' : World} {b : Nat} {k : Int} {s : Value} {C : Nat → Prop} (h : Bx w b k s) (hs : Stays C w w') (hc : C b) : Bx w' b k s :=
  ⟨(World.cell?_of_block (w := w) (a := ⟨b, 0, none⟩) (hs.2 b hc h.lt)).trans h.1, (World.cell?_of_block (w := w) (a := ⟨b, 1, none⟩) (hs.2 b hc h.lt)).trans h.2⟩
theorem Bx.keep {w w' : World} {b : Nat} {k : Int} {s : Value} (h : Bx w b k s) (hb : Below w.heap.size w w') : Bx w' b k s := h.stays (C := fun _ => True) (.of_below hb) trivial
theorem Bx.new (w : World) (k : Int) (s : Value) (t : TypeId) : Bx (w.alloc (.cells #[.int .i64 k, s] t)) w.heap.size k s :=
  ⟨cell_of_blk (blk_new w _) 0, cell_of_blk (blk_new w _) 1⟩
theorem alloc_below (w : World) (o : Obj) : Below w.heap.size w (w.alloc o) := (Below.refl _ w).alloc (Nat.le_refl _) o

end Go.Proofs.YtjobmgbchpoheaaGreatDoor
namespace Go.Proofs.YtjobmgbchpoheaaGreatDoor
open Go Go.RowKit
def NewG (t : Ty) (base : Nat) (w' : World) (v : Value) : Prop := ∃ (s : Value) (es : Got), v = .agg #[.int .i64 t.kind, s] ∧ es.map (·.1) = t.args ∧ Grow w' base s es
def GrowRet (t : Ty) (w : World) (e : Ending) (w' : World) : Prop := ∃ v, e = .returned v ∧ NewG t w.heap.size w' v ∧ Below w.heap.size w w'
theorem NewG.tt {t : Ty} {base : Nat} {w : World} {v : Value} (h : NewG t base w v) : TT w (fun z => base ≤ z) t v := by
  obtain ⟨s, es, rfl, he, hg⟩ := h
  exact ⟨s, rfl, he ▸ hg.all⟩
theorem Grow.lit {W : World} {base : Nat} {es : Got} {cs : Array Value} {n : Nat} (hn : n = es.length) (hcs : cs = (ecells es).toArray) (hb : base ≤ W.heap.size) (hm : es.length ≤ maxLen) (hts : ∀ e ∈ es, TS W (fun z => base ≤ z) e.1.args e.2) :
    Grow (W.alloc (.cells cs 26)) base (.slice (some ⟨W.heap.size, 0, none⟩) n n) es := by
  subst hn hcs
  refine ⟨⟨by rw [ecells_length], Or.inr ⟨W.heap.size, es.length, (ecells es).toArray, rfl, hb, blk_new W _, Nat.le_refl _, hm, by simp [ecells_length], by simp [← ecells_length]⟩⟩, fun e he => ?_⟩
  exact ((hts e he).mono (C' := fun z => base ≤ z ∧ z < W.heap.size) (fun b h1 h2 => ⟨h1, h2⟩) |>.keep ((Below.refl _ _).alloc (Nat.le_refl _) _)).mono (fun b hb _ => ⟨hb.1, fun e => by simp [Value.ownBlock] at e; omega⟩)

theorem Grow.base {w : World} {a b : Nat} {v : Value} {st : Got} (h : Grow w b v st) (hab : a ≤ b) : Grow w a v st := by
  refine ⟨⟨h.own.1, ?_⟩, fun e he => (h.ts e he).mono (fun z hz _ => ⟨Nat.le_trans hab hz.1, hz.2⟩)⟩
  rcases h.own.2 with h0 | ⟨g, cap, cur, rfl, hg, r⟩
  · exact Or.inl h0
  · exact Or.inr ⟨g, cap, cur, rfl, Nat.le_trans hab hg, r⟩
theorem al_cell {w : World} {b i : Nat} {v : Value} (h : w.cell? ⟨b, i, none⟩ = some v) (o : Obj) : (w.alloc o).cell? ⟨b, i, none⟩ = some v :=
  (((Below.refl w.heap.size w).alloc (Nat.le_refl _) o).cell (World.block_lt_of_cell? w _ h)).trans h
theorem al_blk {w : World} {b : Nat} {x : Obj} (h : w.heap[b]? = some x) (o : Obj) : (w.alloc o).heap[b]? = some x :=
  (Below.heap_alloc _ _ _ (Array.getElem?_eq_some_iff.1 h).1).trans h
theorem al_frz {w : World} {b : Nat} {cs : Array Value} {t : TypeId} (h : w.heap[b]? = some (.cells cs t (0, 0))) (o : Obj) (i : Nat) : (w.alloc o).frozen? ⟨b, i, none⟩ = false := unfrozen_of_blk (al_blk h o) i

theorem copyT_any {C : Nat → Prop} {t : Ty} {v : Value} {w : World} (h : TT w C t v) (hn : nodesS t.args ≤ 1048576) : Calls Tryz.prog 121 #[v] w (NewR t w) := by
  obtain ⟨s, rfl, h⟩ := h
  have := copySp_any h w t.kind (Stays.refl _ _) hn
  rwa [← Ty.eta t] at this

set_option maxRecDepth 100000 in
set_option maxHeartbeats 1000000 in
theorem l3Int_any (w : World) : Calls Tryz.prog 85 #[] w fun e w' => e = .returned (.agg #[.int .i64 1, .slice none 0 0]) ∧ Below w.heap.size w w' := by
  have HB := Lib.hid ((Below.refl _ w).alloc (Nat.le_refl _) (.cells #[.int .i64 1, .slice none 0 0] 26))
  go_enter Tryz.func85, Tryz.ntmps85
  go_wp2_with fail
  refine bodyPost_ret (v := .agg #[.int .i64 1, .slice none 0 0]) ?_ rfl ?_
  · rw [results_cell1 rfl]
    go_simp
  · exact ⟨rfl, HB.out⟩

set_option maxRecDepth 100000 in
set_option maxHeartbeats 1000000 in
theorem l3Code_any {C : Nat → Prop} {t : Ty} {v : Value} {w : World} (h : TT w C t v) (hn : nodesS t.args ≤ 1048576) : Calls Tryz.prog 86 #[v] w (GrowRet (.mk 4 [t]) w) := by
  have HT := Lib.hid (fun w' (hb : Below w.heap.size w w') => h.keep hb)
  obtain ⟨s, rfl, hS⟩ := h
  obtain ⟨p, c, rfl⟩ := hS.form
  clear hS
  have HB0 := Lib.hid (((Below.refl _ w).alloc (Nat.le_refl _) (.cells #[.int .i64 t.kind, .slice p t.args.length c] 26)).alloc (by simp) (.cells #[.int .i64 0, .slice none 0 0] 26))
  obtain ⟨wl, hwl⟩ : ∃ wl, (w.alloc (.cells #[.int .i64 t.kind, .slice p t.args.length c] 26)).alloc (.cells #[.int .i64 0, .slice none 0 0] 26) = wl := ⟨_, rfl⟩
  have hwl1 : wl.heap[w.heap.size + 1]? = some (.cells #[.int .i64 0, .slice none 0 0] 26 (0, 0)) := by
    rw [← hwl]
    have := blk_new (w.alloc (.cells #[.int .i64 t.kind, .slice p t.args.length c] 26)) (.cells #[.int .i64 0, .slice none 0 0] 26)
    rwa [World.size_alloc] at this
  have hwls : wl.heap.size = w.heap.size + 2 := by rw [← hwl]; simp
  have HWL := Lib.hid hwl
  have HWL1 := Lib.hid hwl1
  have HC := Lib.hid (copyT_any (HT.out _ HB0.out) hn)
  rw [hwl] at HB0
  clear hwl hwl1
  go_enter Tryz.func86, Tryz.ntmps86
  go_wp2_with fail
  refine HC.out.mono ?_
  rintro e w1 ⟨v1, rfl, ⟨s1, rfl, hs1⟩, hb1⟩
  rw [HWL.out] at hb1 hs1
  obtain ⟨p1, c1, rfl⟩ := hs1.form
  have r1 := (hb1.block _ (Array.getElem?_eq_some_iff.1 HWL1.out).1).trans HWL1.out
  have g0 : w1.cell? ⟨w.heap.size + 1, 0, none⟩ = some (.int .i64 0) := cell_of_blk r1 0
  have g1 : w1.cell? ⟨w.heap.size + 1, 1, none⟩ = some (.slice none 0 0) := cell_of_blk r1 1
  have g2 := al_cell g0
  have g3 := al_cell g1
  have gz := al_frz r1
  have HS1 := Lib.hid hs1
  have HB1 := Lib.hid (HB0.out.trans (hb1.mono HB0.out.size))
  have HSZ := Lib.hid (hwls ▸ hb1.size : w.heap.size + 2 ≤ w1.heap.size)
  clear hb1 hs1 r1 g0 g1
  go_wp2_with fail
  refine bodyPost_ret (v := .agg #[.int .i64 4, .slice (some ⟨w1.heap.size, 0, none⟩) 1 1]) ?_ rfl ?_
  · rw [results_cell1 rfl]
    go_simp
  · have hge : w.heap.size + 2 ≤ w1.heap.size := by have := HSZ.out; omega
    have hg : Grow _ (w.heap.size + 2) (.slice (some ⟨w1.heap.size, 0, none⟩) 1 1) [(t, .slice p1 t.args.length c1)] := Grow.lit (W := w1) (cs := #[.int .i64 t.kind, .slice p1 t.args.length c1]) (n := 1) rfl rfl hge (by simp [maxLen]) (fun e he => by
      rw [List.mem_singleton] at he
      subst he
      exact HS1.out.mono (fun z hz _ => by show _ ≤ z; have : wl.heap.size ≤ z := hz; omega))
    refine ⟨_, rfl, ⟨_, [(t, .slice p1 t.args.length c1)], rfl, rfl, ((hg.set (w.heap.size + 1) 0 _ (by omega)).set (w.heap.size + 1) 1 _ (by omega)).base (by omega)⟩, ?_⟩
    exact ((HB1.out.alloc HB1.out.size _).setCell (p := ⟨w.heap.size + 1, 0, none⟩) (by show w.heap.size ≤ w.heap.size + 1; omega) _).setCell (p := ⟨w.heap.size + 1, 1, none⟩) (by show w.heap.size ≤ w.heap.size + 1; omega) _
structure Two (w : World) (k1 k2 : Int) (s1 s2 : Value) (W : World) : Prop where
  b1 : Bx W w.heap.size k1 s1
  b2 : Bx W (w.heap.size + 1) k2 s2
  r : W.heap[w.heap.size + 1 + 1]? = some (.cells #[.int .i64 0, .slice none 0 0] 26 (0, 0))
  below : Below w.heap.size w W
  ge : w.heap.size + 3 ≤ W.heap.size
theorem Two.keep {w : World} {k1 k2 : Int} {s1 s2 : Value} {W W' : World} (h : Two w k1 k2 s1 s2 W) (hb : Below W.heap.size W W') : Two w k1 k2 s1 s2 W' :=
  ⟨h.b1.keep hb, h.b2.keep hb, (hb.block _ (Array.getElem?_eq_some_iff.1 h.r).1).trans h.r, h.below.trans (hb.mono h.below.size), Nat.le_trans h.ge hb.size⟩
theorem two_fin {w W : World} {k1 k2 : Int} {p1 p2 : Value} {t u : Ty} {s1 s2 : Value} (h : Two w k1 k2 p1 p2 W) (h1 : TS W (fun z => w.heap.size + 3 ≤ z) t.args s1) (h2 : TS W (fun z => w.heap.size + 3 ≤ z) u.args s2) :
    GrowRet (.mk 3 [t, u]) w (.returned (.agg #[.int .i64 3, .slice (some ⟨W.heap.size, 0, none⟩) 2 2])) (((W.alloc (.cells #[.int .i64 t.kind, s1, .int .i64 u.kind, s2] 26)).setCell ⟨w.heap.size + 1 + 1, 0, none⟩ (.int .i64 3)).setCell ⟨w.heap.size + 1 + 1, 1, none⟩ (.slice (some ⟨W.heap.size, 0, none⟩) 2 2)) := by
  have hg : Grow _ (w.heap.size + 3) (.slice (some ⟨W.heap.size, 0, none⟩) 2 2) [(t, s1), (u, s2)] := Grow.lit (W := W) (cs := #[.int .i64 t.kind, s1, .int .i64 u.kind, s2]) (n := 2) rfl rfl h.ge (by simp [maxLen]) (fun e he => by
    rcases List.mem_cons.1 he with rfl | he
    · exact h1
    · rw [List.mem_singleton] at he
      subst he
      exact h2)
  refine ⟨_, rfl, ⟨_, [(t, s1), (u, s2)], rfl, rfl, ((hg.set (w.heap.size + 1 + 1) 0 _ (by omega)).set (w.heap.size + 1 + 1) 1 _ (by omega)).base (by omega)⟩, ?_⟩
  exact ((h.below.alloc h.below.size _).setCell (p := ⟨w.heap.size + 1 + 1, 0, none⟩) (by show w.heap.size ≤ w.heap.size + 1 + 1; omega) _).setCell (p := ⟨w.heap.size + 1 + 1, 1, none⟩) (by show w.heap.size ≤ w.heap.size + 1 + 1; omega) _

end Go.Proofs.YtjobmgbchpoheaaGreatDoor
