/-
  Several texts of the proof in one (each says below what it holds): LvG ScopeA ScopeB NodesQ NodesR MapV Turns ScopeC ScopeD ScopeE.
-/
import Derived.Test.YtfeijijeohfpgaaDoorCq9
import Derived.Test.YtfeijijeohfpgaaDoorCq7
import Derived.Test.YtfeijijeohfpgaaDoorCq5
import Derived.Test.YtfeijijeohfpgaaDoorCq8
import Derived.Test.YtfeijijeohfpgaaDoorCq2
import Derived.Test.YtfeijijeohfpgaaDoorCq3
import Derived.Test.YtfeijijeohfpgaaDoorCq1
import Derived.Lib.SmallJoins
import Derived.RangeFuncNested
import Derived.RangeFuncBound
import Derived.RangeFuncCalls
import Derived.Shelf.Abstract
import Derived.IntWalk
import Derived.Shelf.RegionOpen
import Derived.WalkKit
import Derived.TacticsInMore
import Derived.LoopNIn
import Derived.LoopIn
import Derived.Sort.LoopGhostIn
import Derived.Maps.OwnOps
import Derived.Maps.OwnSet
import Derived.Maps.Views
import Derived.Below
import Derived.Deep.RegionHeldLaw
set_option linter.unusedVariables false
set_option linter.unusedSimpArgs false
namespace Go.Proofs.YtfeijijeohfpgaaDoor
open Go Go.RowKit Go.Shelf
attribute [local go_sem] Oper.semAt_some
def GenNode (e : Tm × Int) : Prop := LvNode e ∧ ¬ (e.1.kind = 11 ∧ e.2 = 1)
theorem gen_walk (t : Tm) (l : Int) : ((t.IsT ∧ t.lvOk l) ∧ t.made l) ↔ ∀ e ∈ walkL t l, GenNode e := by
  rw [levels_walk, made_walk]
  exact ⟨fun h e he => ⟨h.1 e he, h.2 e he⟩, fun h => ⟨fun e he => (h e he).1, fun e he => (h e he).2⟩⟩
theorem not_gen_at {t x : Tm} {n lv : Int} {pre : List (Tm × Int)} (h : pre ++ [(x, lv)] <+: walkL t n) (hx : ¬ GenNode (x, lv)) : ¬ ((t.IsT ∧ t.lvOk n) ∧ t.made n) := fun hh =>
  hx ((gen_walk t n).1 hh (x, lv) (h.subset (by simp)))

set_option maxRecDepth 100000 in
set_option maxHeartbeats 2000000 in
theorem genI_any {C : Nat → Prop} {t : Tm} {v : Value} {w : World} (n : Int) (hka : KA w) (h : TM w C t v) (hn : t.wt ≤ 2097152) :
    Calls Tryd.prog 16 #[v, .int .i64 n] w (Tells ((t.IsT ∧ t.lvOk n) ∧ t.made n) w) := by
  have HKA := Lib.hid (fun (w' : World) (hb : Below w.heap.size w w') => hka.below hb)
  have HWT := Lib.hid hn
  clear hka hn
  obtain ⟨tp, tc, rp, rc, p, c, rfl, hT⟩ := h
  have HT := Lib.hid (hT.mono (C' := (· < w.heap.size)) (fun _ _ h => h))
  clear hT
  refine (callsIn_wide (n := 3)).1 ?_
  refine callsIn_of_wp_marks Tryd.func16 rfl trivial ?_ rfl
  simp only [Tryd.ntmps16, List.size_toArray, List.length_cons, List.length_nil, Nat.reduceAdd, Nat.reduceSub, Array.replicate_succ, Array.replicate_zero, List.push_toArray, List.append_toArray, List.nil_append, List.cons_append]
  gi_wp2_with fail
  obtain ⟨w0, hw0, hs0, hb0, hk0, hk1⟩ := box_new2 w (tmC t tp tc rp rc p c) #[.bool false] 35 4
  rw [hw0]
  refine ⟨trivial, ?_⟩
  refine (callsIn_wide.2 (nwl_any w.heap.size 0 n w0)).mono ?_
  rintro e wl ⟨Bn, Be, rfl, hI, hbw⟩
  have hsz := hbw.size
  have hbl : Below w.heap.size w wl := hb0.trans (hbw.mono hb0.size)
  have k1 : wl.heap[w.heap.size + 1]? = some (.cells #[.bool false] 4 (0, 0)) := (hbw.block _ (by omega)).trans hk1
  have HSL : TermAt wl (fun z => z < w.heap.size + 1) t w.heap.size 0 := boxAt ((hbw.block _ (by omega)).trans hk0) (by omega) ((HT.out.stays (.of_below hbl)).mono (fun z hz _ => by omega))
  clear hk0 hk1 hb0 hw0
  gi_wp2_with fail
  refine rangeE_law (E := fun _ => False) (F := Fence.wide) (n := 3) rfl (by omega) (gf := 59) (lb := #[.pointer (some ⟨Bn, 0, none⟩), .pointer (some ⟨Be, 0, none⟩)]) rfl trivial (enters_of Tryd.func59 (by kernel_rfl) rfl)
    (B0 := fun b => b = w.heap.size + 1) (levels_seq (fun _ => False) hI HSL HWT.out (Below.refl _ _) (fun b h => by omega) (fun _ h => h.elim)) (fun _ h => h.elim) (fun _ => rfl) (fun b h h2 => by omega) (fun b h => by omega) (fun b h => by omega)
    (fun pre B N W => (∀ z, B z ↔ z = w.heap.size + 1) ∧ (∀ z, ¬ N z) ∧ W.heap[w.heap.size + 1]? = some (.cells #[.bool false] 4 (0, 0)) ∧ (∀ e ∈ pre, GenNode e) ∧ Below w.heap.size w W)
    (fun j pre B N W => (∀ z, B z ↔ z = w.heap.size + 1) ∧ j = .ret ∧ W.cell? ⟨w.heap.size + 1, 0, none⟩ = some (.bool false) ∧ ¬ ((t.IsT ∧ t.lvOk n) ∧ t.made n) ∧ Below w.heap.size w W)
    (fun pre B N A A' h hk => ⟨h.1, h.2.1, (hk.1.block _ (by omega)).trans h.2.2.1, h.2.2.2.1, h.2.2.2.2.trans (hk.1.mono (by omega))⟩)
    (fun j pre B N A A' h hk => ⟨h.1, h.2.1, (hk.1.cell (by show w.heap.size + 1 < _; omega)).trans h.2.2.1, h.2.2.2.1, h.2.2.2.2.trans (hk.1.mono (by omega))⟩)
    (fun x Y A A' l r hl hg hr hA => goodL_loop hg hA (by omega)) (fun pre B N A h z hz => by rw [(h.1 z).1 hz]; exact (Array.getElem?_eq_some_iff.1 h.2.2.1).1) (fun x Y A z hg hz => absurd hz (hg.2 z)) ⟨fun _ => Iff.rfl, fun _ h => h, k1, (fun e he => absurd he (List.not_mem_nil)), hbl⟩
    (fun x s a' W => a' = { tmps := #[tmV t tp tc rp rc p c, .int .i64 n, .pointer (some ⟨w.heap.size, 0, none⟩), undef, .pointer (some ⟨w.heap.size + 1, 0, none⟩), .pointer (some ⟨x.2.1, x.2.2, none⟩), .int .i64 x.1.2,
      .int .i64 n, iterL Bn Be, .pointer (some ⟨x.2.1, x.2.2, none⟩), .int .i64 x.1.2, undef, undef, undef, undef, undef, undef, undef, undef, undef], defers := [] })
    (fun x s a' W l r o h hl => h) ?assign ?body ?done ?stop
  case assign =>
    rintro l ⟨⟨x, lv⟩, ⟨b1, o1⟩⟩ Y W K hG hK
    have HK := Lib.hid hK
    clear hK
    gi_wp2
    exact HK.out _ _ (Below.refl _ _) (by simp)
  case body =>
    rintro l pre ⟨⟨x, lv⟩, ⟨b1, o1⟩⟩ s a' Y B N W ⟨hBo, hNo, hr, hso, hB⟩ hpre hG hYB hs rfl hlp hBl
    have hpre : pre ++ [(x, lv)] <+: walkL t n := hpre
    have hG' : TermAt W (fun z => z < w.heap.size + 1) x b1 o1 := hG.1
    have hxw : x.wt ≤ 2097152 := by
      have h1 := wt_walkL t n (x, lv) (hpre.subset (by simp))
      have h2 := HWT.out
      simp only at h1
      omega
    have HC := Lib.hid (falI_any lv (HKA.out W hB) hG' hxw)
    have HG := Lib.hid hG'
    have HR1 := Lib.hid hr
    have HB1 := Lib.hid hB
    have HSO := Lib.hid hso
    have HP := Lib.hid hpre
    have HBO := Lib.hid hBo
    have HFIN := Lib.hid (fun (W' : World) (hb : Below W.heap.size W W') => show W'.heap[w.heap.size + 1]? = some (.cells #[.bool false] 4 (0, 0)) from (hb.block _ (Array.getElem?_eq_some_iff.1 hr).1).trans hr)
    have hstop : ¬ GenNode (x, lv) → ∀ (W' : World) (q : World), Below W.heap.size W W' → q = W'.setCell ⟨w.heap.size + 1, 0, none⟩ (.bool false) → ∃ B' N' : Nat → Prop, Grew B B' W.heap.size q.heap.size ∧ (∀ z, N' z → N z ∨ Y z) ∧ Holds (fun z => B z ∨ False) W q ∧ (∀ z, B' z ↔ z = w.heap.size + 1) ∧ q.cell? ⟨w.heap.size + 1, 0, none⟩ = some (.bool false) ∧ ¬ ((t.IsT ∧ t.lvOk n) ∧ t.made n) ∧ Below w.heap.size w q := by
      rintro hno W' q hb rfl
      have hr2 := HFIN.out W' hb
      have r2 := cell_of_blk hr2 0
      simp only [List.getElem?_toArray, List.getElem?_cons_zero] at r2
      have hlt := (Array.getElem?_eq_some_iff.1 hr2).1
      refine ⟨B, fun _ => False, Grew.refl (fun b hb' => ?_), fun z hz => hz.elim, Holds.setCell (.of_below hb) ⟨w.heap.size + 1, 0, none⟩ (Or.inl ((hBo _).2 rfl)) _, hBo, World.cell?_setCell_same' W' ⟨w.heap.size + 1, 0, none⟩ (.bool false) (by rw [r2]; rfl), not_gen_at hpre hno, (hB.trans (hb.mono hB.size)).setCell (p := ⟨w.heap.size + 1, 0, none⟩) (by show w.heap.size ≤ w.heap.size + 1; omega) _⟩
      rw [(hBo b).1 hb']
      simpa [World.setCell] using hlt
    have hgo : GenNode (x, lv) → ∀ (W' : World), Below W.heap.size W W' → ∃ B' N' : Nat → Prop, Grew B B' W.heap.size W'.heap.size ∧ (∀ z, N' z → N z ∨ Y z) ∧ Holds B W W' ∧ (∀ z, B' z ↔ z = w.heap.size + 1) ∧ (∀ z, ¬ N' z) ∧ W'.heap[w.heap.size + 1]? = some (.cells #[.bool false] 4 (0, 0)) ∧ (∀ e ∈ pre ++ [(x, lv)], GenNode e) ∧ Below w.heap.size w W' := by
      intro hx W' hb
      have hr2 := HFIN.out W' hb
      refine ⟨B, fun _ => False, Grew.refl (fun b hb' => ?_), fun z hz => hz.elim, .of_below hb, hBo, fun _ h => h, hr2, fun e he => ?_, hB.trans (hb.mono hB.size)⟩
      · rw [(hBo b).1 hb']
        exact (Array.getElem?_eq_some_iff.1 hr2).1
      · rcases List.mem_append.1 he with he | he
        · exact hso e he
        · simp only [List.mem_singleton] at he
          subst he
          exact hx
    have HSTOP := Lib.hid hstop
    have HGO := Lib.hid hgo
    clear hso hpre hr hB k1 hG' HSL hbl hbw hI hxw hBo hNo hYB hs hlp hBl hG hstop hgo
    gi_wp2_with fail
    refine ⟨trivial, ?_⟩
    refine (CallsIn.inRound l (callsIn_wide.2 HC.out)).mono ?_
    rintro e W2 ⟨b, hb, rfl, hb2⟩
    have HBB := Lib.hid hb
    have HB2 := Lib.hid hb2
    have hr2 := HFIN.out W2 hb2
    have r3 := cell_of_blk hr2 0
    have rz3 := unfrozen_of_blk hr2 0
    simp only [List.getElem?_toArray, List.getElem?_cons_zero] at r3
    clear hb hb2 hr2
    cases b with
    | false =>
      gi_wp2_with fail
      refine ⟨trivial, ?_⟩
      gi_wp2_with fail
      obtain ⟨B', N', h1, h2, h3, h4, h5, h6, h7⟩ := HSTOP.out (fun h => by have := HBB.out.2 h.1; cases this) W2 _ HB2.out rfl
      exact ⟨B', N', h1, h2, h3, h4, rfl, h5, h6, h7⟩
    | true =>
      gi_wp2_with fail
      refine ⟨trivial, ?_⟩
      refine (CallsIn.inRound l (callsIn_wide.2 (sonI_any lv (HG.out.stays (.of_below HB2.out))))).mono ?_
      rintro e W3 ⟨q, hq, rfl, hb3⟩
      have HQ := Lib.hid hq
      have HB3 := Lib.hid (HB2.out.trans (hb3.mono HB2.out.size))
      have hr3 := HFIN.out W3 HB3.out
      have r4 := cell_of_blk hr3 0
      have rz4 := unfrozen_of_blk hr3 0
      simp only [List.getElem?_toArray, List.getElem?_cons_zero] at r4
      clear hq hb3 r3 rz3 hr3
      cases q with
      | true =>
        gi_wp2_with fail
        obtain ⟨B', N', h1, h2, h3, h4, h5, h6, h7⟩ := HSTOP.out (fun h => h.2 (HQ.out.1 (by trivial))) W3 _ HB3.out rfl
        exact ⟨B', N', h1, h2, h3, h4, rfl, h5, h6, h7⟩
      | false =>
        gi_wp2_with fail
        exact HGO.out ⟨HBB.out.1 (by trivial), fun h => by have := HQ.out.2 h; cases this⟩ W3 HB3.out
  case done =>
    rintro D B N W hD hne ⟨hBo, hNo, hr, hso, hB⟩ hK
    have r0 := cell_of_blk hr 0
    have rz := unfrozen_of_blk hr 0
    simp only [List.getElem?_toArray, List.getElem?_cons_zero] at r0
    have HV := Lib.hid ((gen_walk t n).2 hso)
    have HB := Lib.hid hB
    have hK' : (W.setCell ⟨w.heap.size + 1, 0, none⟩ (.bool true)).heap[D]? = some (.deferred (some [])) := (Below.heap_setCell _ _ _ _ (by show D ≠ w.heap.size + 1; omega)).trans hK
    clear hso hB hr hK k1 HSL hbl hbw hI hBo hNo hne
    gi_wp2_with fail
    refine ⟨by simp, .inl ⟨_, _, rfl, run_takeDeferred hK', ?_⟩⟩
    have hc := (World.cell?_of_block (a := ⟨w.heap.size + 1, 0, none⟩) (w' := (W.setCell ⟨w.heap.size + 1, 0, none⟩ (.bool true)).putObj D (.deferred none)) (World.putObj_heap_other (by show w.heap.size + 1 ≠ D; omega))).trans (World.cell?_setCell_same' W ⟨w.heap.size + 1, 0, none⟩ (.bool true) (by rw [r0]; rfl))
    refine ⟨.bool true, ?_, _, ⟨fun _ => HV.out, fun _ => rfl⟩, rfl, (HB.out.setCell (p := ⟨w.heap.size + 1, 0, none⟩) (by show w.heap.size ≤ w.heap.size + 1; omega) _).trans (below_putObj _ _ _ _ (by omega))⟩
    rw [results_cell1 rfl]
    go_simp
  case stop =>
    rintro D c pre B N W hD hne hpre ⟨hBo, rfl, hr, hv, hB⟩ hK
    have HB := Lib.hid hB
    have HV := Lib.hid hv
    clear hv hB k1 HSL hbl hbw hI hBo hne
    gi_wp2_with fail
    refine ⟨by simp, .inl ⟨_, _, rfl, run_takeDeferred hK, ?_⟩⟩
    have hc := (World.cell?_of_block (a := ⟨w.heap.size + 1, 0, none⟩) (w' := W.putObj D (.deferred none)) (World.putObj_heap_other (by show w.heap.size + 1 ≠ D; omega))).trans hr
    refine ⟨.bool false, ?_, _, ⟨fun h => by simp at h, fun h => absurd h HV.out⟩, rfl, HB.out.trans (below_putObj _ _ _ _ (by omega))⟩
    rw [results_cell1 rfl]
    go_simp
end Go.Proofs.YtfeijijeohfpgaaDoor
namespace Go.Proofs.YtfeijijeohfpgaaDoor
open Go Go.RowKit
def Tm.sc (t : Tm) : List Tm := if t.kind = 1 then [] else t.args
theorem sc_not {t : Tm} (h : ¬ t.kind = 1) : t.sc = t.args := by unfold Tm.sc; rw [if_neg h]
def scV (t : Tm) (p : Option Addr) (c : Nat) : Value := if t.kind = 1 then .slice none 0 0 else .slice p t.args.length c
set_option maxRecDepth 100000 in
set_option maxHeartbeats 1000000 in
theorem argsSc_any {w : World} {b o : Nat} {t : Tm} {tp rp p : Option Addr} {tc rc c : Nat} (h : At9 w b o t tp tc rp rc p c) :
    Calls Tryd.prog 111 #[.pointer (some ⟨b, o, none⟩)] w fun e w' => e = .returned (scV t p c) ∧ w' = w := by
  obtain ⟨g0, g1, g2, g3, g4, g5, g6, g7, g8⟩ := h
  go_enter Tryd.func111, Tryd.ntmps111
  by_cases h1 : t.kind = 1
  · have e1 : (t.kind == 1) = true := by simp; omega
    have HV := Lib.hid (show scV t p c = .slice none 0 0 by unfold scV; rw [if_pos h1])
    clear h1
    go_wp2_with fail
    go_ret
    exact ⟨by rw [HV.out]; rfl, rfl⟩
  · have e1 : (t.kind == 1) = false := by simp; omega
    have HV := Lib.hid (show scV t p c = .slice p t.args.length c by unfold scV; rw [if_neg h1])
    clear h1
    go_wp2_with fail
    go_ret
    exact ⟨by rw [HV.out]; rfl, rfl⟩
def NmV (w : World) (base : Nat) (xs : List ByteArray) (v : Value) : Prop := (xs = [] ∧ v = .slice none 0 0) ∨ (xs ≠ [] ∧ Own w base v xs)
theorem ar_six {t : Tm} (h : t.kind = 6) : t.arOk ↔ t.args.length = 1 := by
  unfold Tm.arOk
  rw [show t.arity = 1 by unfold Tm.arity; rw [h]; rfl]
  exact ⟨fun h => by omega, fun h => ⟨by omega, fun h => by omega⟩⟩
theorem ar_eight {t : Tm} (h : t.kind = 8) : t.arOk ↔ t.args.length = 2 := by
  unfold Tm.arOk
  rw [show t.arity = 2 by unfold Tm.arity; rw [h]; rfl]
  exact ⟨fun h => by omega, fun h => ⟨by omega, fun h => by omega⟩⟩
theorem ar_nine {t : Tm} (h : t.kind = 9) : t.arOk ↔ t.args.length = 1 := by
  unfold Tm.arOk
  rw [show t.arity = 1 by unfold Tm.arity; rw [h]; rfl]
  exact ⟨fun h => by omega, fun h => ⟨by omega, fun h => by omega⟩⟩
theorem bnd_no {t : Tm} (h : ¬ t.arOk) : t.bnd = [] := by
  unfold Tm.bnd
  rw [if_neg (fun e => h ((ar_six e.1).2 e.2)), if_neg (fun e => h ((ar_eight e.1).2 e.2)), if_neg (fun e => h ((ar_nine e.1).2 e.2))]
theorem bnd_one {t : Tm} (h : t.arOk) (hk : t.kind = 6 ∨ t.kind = 8) : t.bnd = [t.name] := by
  unfold Tm.bnd
  rcases hk with hk | hk
  · rw [if_pos ⟨hk, (ar_six hk).1 h⟩]
  · rw [if_neg (fun e => by omega), if_pos ⟨hk, (ar_eight hk).1 h⟩]
theorem bnd_two {t : Tm} (h : t.arOk) (hk : t.kind = 9) : t.bnd = [t.name, t.other] := by
  unfold Tm.bnd
  rw [if_neg (fun e => by omega), if_neg (fun e => by omega), if_pos ⟨hk, (ar_nine hk).1 h⟩]
theorem bnd_oth {t : Tm} (h6 : ¬ t.kind = 6) (h8 : ¬ t.kind = 8) (h9 : ¬ t.kind = 9) : t.bnd = [] := by
  unfold Tm.bnd
  rw [if_neg (fun e => h6 e.1), if_neg (fun e => h8 e.1), if_neg (fun e => h9 e.1)]
set_option maxRecDepth 100000 in
set_option maxHeartbeats 4000000 in
theorem bndI_any {w : World} {b o : Nat} {t : Tm} {tp rp p : Option Addr} {tc rc c : Nat} (h : At9 w b o t tp tc rp rc p c) (hka : KA w) (hn : t.wt ≤ 2097152) :
    Calls Tryd.prog 112 #[.pointer (some ⟨b, o, none⟩)] w fun e w' => ∃ v, e = .returned v ∧ NmV w' w.heap.size t.bnd v ∧ Below w.heap.size w w' := by
  have HA := Lib.hid (hasAr_any t tp tc rp rc p c w hka hn)
  have H9 := Lib.hid (fun w' (hb : Below w.heap.size w w') => ((⟨(hb.cell (World.block_lt_of_cell? w _ h.kind)).trans h.kind, (hb.cell (World.block_lt_of_cell? w _ h.name)).trans h.name, (hb.cell (World.block_lt_of_cell? w _ h.other)).trans h.other, (hb.cell (World.block_lt_of_cell? w _ h.n)).trans h.n, (hb.cell (World.block_lt_of_cell? w _ h.tk)).trans h.tk, (hb.cell (World.block_lt_of_cell? w _ h.ta)).trans h.ta, (hb.cell (World.block_lt_of_cell? w _ h.rk)).trans h.rk, (hb.cell (World.block_lt_of_cell? w _ h.ra)).trans h.ra, (hb.cell (World.block_lt_of_cell? w _ h.args)).trans h.args⟩ : At9 w' b o t tp tc rp rc p c)))
  obtain ⟨g0, g1, g2, g3, g4, g5, g6, g7, g8⟩ := h
  clear hka
  go_enter Tryd.func112, Tryd.ntmps112
  go_wp2_with fail
  refine HA.out.mono ?_
  rintro e w1 ⟨r, hr, rfl, hb1⟩
  have HR := Lib.hid hr
  have HB1 := Lib.hid hb1
  clear g0 g1 g2 g3 g4 g5 g6 g7 g8
  obtain ⟨g0, g1, g2, g3, g4, g5, g6, g7, g8⟩ := H9.out w1 hb1
  clear hr hb1
  cases r with
  | false =>
    have HV := Lib.hid (bnd_no (t := t) (fun h => by have := HR.out.2 h; cases this))
    go_wp2_with fail
    go_ret
    exact ⟨_, rfl, Or.inl ⟨HV.out, rfl⟩, HB1.out⟩
  | true =>
    have HK := Lib.hid (HR.out.1 rfl)
    by_cases h6 : t.kind = 6
    · have e6 : (t.kind == 6) = true := by simp; omega
      have HV := Lib.hid (bnd_one HK.out (Or.inl h6))
      clear h6
      go_wp2_with fail
      go_ret
      exact ⟨_, rfl, Or.inr ⟨by rw [HV.out]; simp, by rw [HV.out]; exact (own_one w1 t.name).base HB1.out.size⟩, HB1.out.trans ((al_below w1 _).mono HB1.out.size)⟩
    have e6 : (t.kind == 6) = false := by simp; omega
    by_cases h8 : t.kind = 8
    · have e8 : (t.kind == 8) = true := by simp; omega
      have HV := Lib.hid (bnd_one HK.out (Or.inr h8))
      clear h6 h8
      go_wp2_with fail
      go_ret
      exact ⟨_, rfl, Or.inr ⟨by rw [HV.out]; simp, by rw [HV.out]; exact (own_one w1 t.name).base HB1.out.size⟩, HB1.out.trans ((al_below w1 _).mono HB1.out.size)⟩
    have e8 : (t.kind == 8) = false := by simp; omega
    by_cases h9 : t.kind = 9
    · have e9 : (t.kind == 9) = true := by simp; omega
      have HV := Lib.hid (bnd_two HK.out h9)
      clear h6 h8 h9
      go_wp2_with fail
      go_region
      go_wp2_with fail
      go_ret
      have hd := (Below.refl w1.heap.size w1).drew
      exact ⟨_, rfl, Or.inr ⟨by rw [HV.out]; simp, by rw [HV.out]; exact (own_two w1.drew t.name t.other).base HB1.out.size⟩, (HB1.out.trans (hd.mono HB1.out.size)).trans ((al_below w1.drew _).mono HB1.out.size)⟩
    · have e9 : (t.kind == 9) = false := by simp; omega
      have HV := Lib.hid (bnd_oth h6 h8 h9)
      clear h6 h8 h9
      go_wp2_with fail
      go_ret
      exact ⟨_, rfl, Or.inl ⟨HV.out, rfl⟩, HB1.out⟩
end Go.Proofs.YtfeijijeohfpgaaDoor
namespace Go.Proofs.YtfeijijeohfpgaaDoor
open Go Go.RowKit
def NamesAt (w : World) (Z : Nat → Prop) (xs : List ByteArray) (s : Value) : Prop := (xs = [] ∧ s = .slice none 0 0) ∨
  (xs ≠ [] ∧ ∃ g cap, s = .slice (some ⟨g, 0, none⟩) xs.length cap ∧ Z g ∧ g < w.heap.size ∧ ∀ j x, xs[j]? = some x → w.cell? ⟨g, j, none⟩ = some (.string x))
theorem NamesAt.stays {w w' : World} {Z : Nat → Prop} {xs : List ByteArray} {s : Value} (h : NamesAt w Z xs s) (hs : Stays Z w w') : NamesAt w' Z xs s := by
  rcases h with h | ⟨h0, g, cap, h1, h2, h3, h4⟩
  · exact Or.inl h
  · exact Or.inr ⟨h0, g, cap, h1, h2, Nat.lt_of_lt_of_le h3 hs.1, fun j x hj => (World.cell?_of_block (a := ⟨g, j, none⟩) (hs.2 g h2 h3)).trans (h4 j x hj)⟩
theorem NamesAt.mono {w : World} {Z Z' : Nat → Prop} {xs : List ByteArray} {s : Value} (h : NamesAt w Z xs s) (hz : ∀ z, Z z → z < w.heap.size → Z' z) : NamesAt w Z' xs s := by
  rcases h with h | ⟨h0, g, cap, h1, h2, h3, h4⟩
  · exact Or.inl h
  · exact Or.inr ⟨h0, g, cap, h1, hz g h2 h3, h3, h4⟩
theorem NmV.at {w : World} {base : Nat} {xs : List ByteArray} {v : Value} (h : NmV w base xs v) : NamesAt w (fun z => base ≤ z) xs v := by
  rcases h with h | ⟨h0, h⟩
  · exact Or.inl h
  · rcases h.2 with ⟨_, h1⟩ | ⟨g, cap, cur, rfl, hg, hblk, h2, h3, h4, h5⟩
    · exact absurd (List.eq_nil_of_length_eq_zero h1) h0
    · refine Or.inr ⟨h0, g, cap, rfl, hg, (Array.getElem?_eq_some_iff.1 hblk).1, fun j x hj => ?_⟩
      have hl := (List.getElem?_eq_some_iff.1 hj).1
      rw [cell_of_blk hblk j, ← Array.getElem?_toList]
      have : (xs.map Value.string)[j]? = some (.string x) := by rw [List.getElem?_map, hj]; rfl
      rw [← h5, List.getElem?_take, if_pos (by omega)] at this
      exact this
def LQ (w : World) (C Z : Nat → Prop) (l : List (Tm × List ByteArray)) (v : Value) : Prop := ∃ (q : Option Addr) (c : Nat), v = .slice q l.length c ∧ l.length ≤ c ∧ c ≤ maxLen ∧
  ∀ (j : Nat) (hj : j < l.length), ∃ (g o b1 o1 : Nat) (s : Value), q = some ⟨g, o, none⟩ ∧ Z g ∧ g < w.heap.size ∧ w.cell? ⟨g, o + j * 2, none⟩ = some (.pointer (some ⟨b1, o1, none⟩)) ∧ w.cell? ⟨g, o + j * 2 + 1, none⟩ = some s ∧ TermAt w C l[j].1 b1 o1 ∧ NamesAt w Z l[j].2 s
theorem LQ.stays {w w' : World} {C Z : Nat → Prop} {l : List (Tm × List ByteArray)} {v : Value} (h : LQ w C Z l v) (hc : Stays C w w') (hz : Stays Z w w') : LQ w' C Z l v := by
  obtain ⟨q, c, h1, h2, h3, h4⟩ := h
  refine ⟨q, c, h1, h2, h3, fun j hj => ?_⟩
  obtain ⟨g, o, b1, o1, s, e1, e2, e3, e4, e5, e6, e7⟩ := h4 j hj
  exact ⟨g, o, b1, o1, s, e1, e2, Nat.lt_of_lt_of_le e3 hz.1, (World.cell?_of_block (a := ⟨g, o + j * 2, none⟩) (hz.2 g e2 e3)).trans e4, (World.cell?_of_block (a := ⟨g, o + j * 2 + 1, none⟩) (hz.2 g e2 e3)).trans e5, e6.stays hc, e7.stays hz⟩
theorem LQ.mono {w : World} {C Z Z' : Nat → Prop} {l : List (Tm × List ByteArray)} {v : Value} (h : LQ w C Z l v) (hz : ∀ z, Z z → z < w.heap.size → Z' z) : LQ w C Z' l v := by
  obtain ⟨q, c, h1, h2, h3, h4⟩ := h
  refine ⟨q, c, h1, h2, h3, fun j hj => ?_⟩
  obtain ⟨g, o, b1, o1, s, e1, e2, e3, e4, e5, e6, e7⟩ := h4 j hj
  exact ⟨g, o, b1, o1, s, e1, hz g e2 e3, e3, e4, e5, e6, e7.mono hz⟩
def partsQ (t : Tm) : List (Tm × List ByteArray) := t.sc.mapIdx fun k x => (x, t.bndAt k)
theorem partsQ_len (t : Tm) : (partsQ t).length = t.sc.length := by simp [partsQ]
theorem infoQ : (Tryd.prog.info? 111).map (fun i => (i.zero, i.size, i.bytes)) = some (some (.agg #[.pointer none, .slice none 0 0]), 2, 32) := by kernel_rfl
structure RowQ (w : World) (g n : Nat) (P : Nat → Value) (k : Nat) (s : Value) : Prop where
  blk : ∃ cur : Array Value, w.heap[g]? = some (.cells cur 111 (0, 0)) ∧ cur.size = n * 2 ∧ ∀ j, j < n → cur[j * 2]? = some (if j < k then P j else .pointer none) ∧ cur[j * 2 + 1]? = some (if j + 1 = n then s else .slice none 0 0)
section
variable {w w' : World} {g n k : Nat} {P : Nat → Value} {s : Value}
theorem RowQ.lt (h : RowQ w g n P k s) : g < w.heap.size := by
  obtain ⟨cur, hb, _⟩ := h.blk
  exact (Array.getElem?_eq_some_iff.1 hb).1
theorem RowQ.frozen (h : RowQ w g n P k s) (i : Nat) : w.frozen? ⟨g, i, none⟩ = false := by
  obtain ⟨cur, hb, _⟩ := h.blk
  exact unfrozen_of_blk hb i
theorem RowQ.ptr (h : RowQ w g n P k s) {j : Nat} (hj : j < n) : w.cell? ⟨g, j * 2, none⟩ = some (if j < k then P j else .pointer none) := by
  obtain ⟨cur, hb, _, hc⟩ := h.blk
  rw [cell_of_blk hb]; exact (hc j hj).1
theorem RowQ.nms (h : RowQ w g n P k s) {j : Nat} (hj : j < n) : w.cell? ⟨g, j * 2 + 1, none⟩ = some (if j + 1 = n then s else .slice none 0 0) := by
  obtain ⟨cur, hb, _, hc⟩ := h.blk
  rw [cell_of_blk hb]; exact (hc j hj).2
theorem RowQ.below (h : RowQ w g n P k s) (hb : Below w.heap.size w w') : RowQ w' g n P k s := by
  obtain ⟨cur, h1, h2⟩ := h.blk
  exact ⟨cur, (hb.block g h.lt).trans h1, h2⟩
theorem RowQ.next (h : RowQ w g n P k s) : RowQ (w.setCell ⟨g, k * 2, none⟩ (P k)) g n P (k + 1) s := by
  obtain ⟨cur, h1, h2, h3⟩ := h.blk
  refine ⟨cur.setIfInBounds (k * 2) (P k), Go.Joins.block_setCell h1 _, by simpa using h2, fun j hj => ?_⟩
  obtain ⟨e1, e2⟩ := h3 j hj
  rw [Array.getElem?_setIfInBounds, Array.getElem?_setIfInBounds]
  refine ⟨?_, by rw [if_neg (by omega)]; exact e2⟩
  by_cases e : k = j
  · subst e
    rw [if_pos rfl, if_pos (by omega), if_pos (by omega)]
  · rw [if_neg (by omega), e1]
    by_cases e3 : j < k
    · rw [if_pos e3, if_pos (by omega)]
    · rw [if_neg e3, if_neg (by omega)]
theorem RowQ.named (h : RowQ w g n P k s) (s' : Value) (hn : 0 < n) : RowQ (w.setCell ⟨g, (n - 1) * 2 + 1, none⟩ s') g n P k s' := by
  obtain ⟨cur, h1, h2, h3⟩ := h.blk
  refine ⟨cur.setIfInBounds ((n - 1) * 2 + 1) s', Go.Joins.block_setCell h1 _, by simpa using h2, fun j hj => ?_⟩
  obtain ⟨e1, e2⟩ := h3 j hj
  rw [Array.getElem?_setIfInBounds, Array.getElem?_setIfInBounds]
  refine ⟨by rw [if_neg (by omega)]; exact e1, ?_⟩
  by_cases e : j + 1 = n
  · rw [if_pos (by omega), if_pos (by omega), if_pos e]
  · rw [if_neg (by omega), e2, if_neg e, if_neg e]
theorem rowQ_start {base : Nat} {xs : List Value} (h : w.ownsRow base 111 2 (.slice (some ⟨g, 0, none⟩) n n) n xs) (hx : ∀ j, j < n → xs[j * 2]? = some (.pointer none) ∧ xs[j * 2 + 1]? = some (.slice none 0 0)) : RowQ w g n P 0 (.slice none 0 0) := by
  rcases h.2 with ⟨e0, e1⟩ | ⟨g', cap', cur, hv, hg, hblk, h1, h2, h3, h4⟩
  · cases e0
  · simp only [Value.slice.injEq, Option.some.injEq, Addr.mk.injEq, true_and, and_true] at hv
    obtain ⟨rfl, rfl⟩ := hv
    refine ⟨cur, hblk, h3, fun j hj => ?_⟩
    obtain ⟨e1, e2⟩ := hx j hj
    rw [← h4, List.getElem?_take, if_pos (by omega), Array.getElem?_toList] at e1 e2
    rw [if_neg (by omega)]
    exact ⟨e1, by rw [e2]; split <;> rfl⟩
end

theorem zerosQ (n j : Nat) (h : j < n) : (madeCells (#[Value.pointer none, Value.slice none 0 0]) (n * 2)).toList[j * 2]? = some (.pointer none) ∧ (madeCells (#[Value.pointer none, Value.slice none 0 0]) (n * 2)).toList[j * 2 + 1]? = some (.slice none 0 0) := by
  have h1 : j * 2 < n * 2 := by omega
  have h2 : j * 2 + 1 < n * 2 := by omega
  have e2 : (j * 2 + 1) % 2 = 1 := by omega
  constructor
  · simp [madeCells, h1]
  · simp [madeCells, h2, e2]

def ptrQ (p : Option Addr) (j : Nat) : Value := .pointer (match p with | some a => some ⟨a.block, a.off + j * 9, none⟩ | none => none)
theorem lq_fin {C : Nat → Prop} {w wf : World} {t : Tm} {tp rp p : Option Addr} {tc rc c G k : Nat} {s : Value} (hR : RowQ wf G k (ptrQ p) k s) (hG : w.heap.size ≤ G) (hm : k = t.sc.length) (hq : 0 < k → ¬ t.kind = 1) (hk : k ≤ maxLen)
    (hb : Below w.heap.size w wf) (hT : TM' w C t tp tc rp rc p c) (hs : NamesAt wf (fun z => w.heap.size ≤ z ∧ z < wf.heap.size) t.bnd s) :
    LQ wf C (fun z => w.heap.size ≤ z ∧ z < wf.heap.size) (partsQ t) (.slice (some ⟨G, 0, none⟩) k k) := by
  have hl : (partsQ t).length = k := by rw [partsQ_len]; exact hm.symm
  refine ⟨_, k, by rw [hl], by rw [hl]; exact Nat.le_refl _, hk, fun j hj => ?_⟩
  rw [hl] at hj
  have hk1 := hq (by omega)
  have hsc := sc_not hk1
  have hja : j < t.args.length := by rw [← hsc]; omega
  obtain ⟨b', o', tp', tc', rp', rc', p', c', hp, hC', hb', h9', hx'⟩ := tm_part hT.args j hja
  have hst : Stays C w wf := .of_below hb
  have e1 : (partsQ t)[j].1 = t.args[j] := by
    simp only [partsQ, List.getElem_mapIdx]
    congr 1
  have e2 : (partsQ t)[j].2 = t.bndAt j := by simp [partsQ]
  have hla : t.args.length = k := by rw [hm, hsc]
  refine ⟨G, 0, b', o' + j * 9, if j + 1 = k then s else .slice none 0 0, rfl, ⟨hG, hR.lt⟩, hR.lt, ?_, ?_, ?_, ?_⟩
  · rw [Nat.zero_add, hR.ptr hj, if_pos hj, hp]
    rfl
  · rw [Nat.zero_add, hR.nms hj]
  · rw [e1]
    exact ⟨_, _, _, _, _, _, hC', Nat.lt_of_lt_of_le hb' hb.size, h9' wf hst, hx'.stays hst⟩
  · rw [e2]
    by_cases h : j + 1 = k
    · rw [if_pos h, bndAt_yes (by omega)]
      exact hs
    · rw [if_neg h, bndAt_not (by omega)]
      exact Or.inl ⟨rfl, rfl⟩
set_option maxRecDepth 100000 in
set_option maxHeartbeats 4000000 in
theorem partsI_any {C : Nat → Prop} {w : World} {b o : Nat} {t : Tm} {s0 : Value} (h : TermAt w C t b o) (hka : KA w) (hn : t.wt ≤ 2097152) :
    Calls Tryd.prog 98 #[.agg #[.pointer (some ⟨b, o, none⟩), s0]] w fun e w' => ∃ v, e = .returned v ∧ LQ w' C (fun z => w.heap.size ≤ z ∧ z < w'.heap.size) (partsQ t) v ∧ Below w.heap.size w w' := by
  obtain ⟨i0, hi, hz0, hz1, hz2⟩ := info_parts infoQ
  obtain ⟨tp, tc, rp, rc, p, c, hC, hb, h9, hT⟩ := h
  obtain ⟨wb, hwb, hsb, hbb, rb⟩ := box_new w #[.pointer (some ⟨b, o, none⟩), s0] 111
  have HA := Lib.hid (argsSc_any (w := wb) (h9.keep (hbb.block b hb)))
  have H9 := Lib.hid h9
  have HT := Lib.hid hT
  have HW := Lib.hid (And.intro hsb (And.intro hbb rb))
  have HK := Lib.hid hka
  have HWW := Lib.hid hwb
  have hlen : t.args.length ≤ 2097152 := by have h1 := t.wt_eq; have h2 := wtS_ge t.args; omega
  have hb0 := cell_of_blk rb 0
  have hb1 := cell_of_blk rb 1
  simp only [List.getElem?_toArray, List.getElem?_cons_zero, List.getElem?_cons_succ] at hb0 hb1
  rw [← hwb] at hb0 hb1
  clear h9 hT hsb hbb rb hka hwb
  go_enter Tryd.func98, Tryd.ntmps98
  go_wp2_with fail
  rw [HWW.out]
  refine HA.out.mono ?_
  rintro e w1 ⟨rfl, rfl⟩
  clear hb0 hb1
  obtain ⟨q, m, c1, hsc⟩ : ∃ q m c1, scV t p c = .slice q m c1 ∧ m = t.sc.length ∧ (0 < m → q = p ∧ ¬ t.kind = 1) := by
    unfold scV Tm.sc
    split
    · exact ⟨_, _, _, rfl, rfl, fun h => by omega⟩
    · exact ⟨_, _, _, rfl, rfl, fun _ => ⟨rfl, by assumption⟩⟩
  obtain ⟨hsc, hm, hq⟩ := hsc
  rw [hsc]
  have hm2 : m ≤ 2097152 := by
    rw [hm]
    unfold Tm.sc
    split
    · simp
    · exact hlen
  have HM := Lib.hid hm
  have HSC := Lib.hid hsc
  have HQ := Lib.hid hq
  clear hm hsc hq
  go_wp2_with (at_make; refine wpList_make_full _ rfl _ _ 131 rfl w1.heap.size 111 i0 _ 2 Tryd.underlying131 hi hz0 hz1 .i64 .i64 _ _ m rfl rfl rfl rfl ?c1 ?c2 ?c3 ?_)
  case c1 => rw [hz2]; omega
  case c2 => unfold maxLen; omega
  case c3 => exact Nat.le_refl _
  intro w2 hown0 hg
  have hb2 : Below w1.heap.size w1 w2 := (Below.refl _ _).grown hg (Nat.le_refl _) (fun k h => by cases h)
  have HR0 := Lib.hid (rowQ_start (P := ptrQ p) hown0 (fun j hj => by
    exact zerosQ m j hj))
  clear hown0 hg
  have HB2 := Lib.hid hb2
  clear hb2
  go_wp2_with fail
  go_loopw [15] (fun i wr => ∃ k : Nat, k ≤ m ∧ i = .int .i64 k ∧ RowQ wr w1.heap.size m (ptrQ p) k (.slice none 0 0) ∧ Below w1.heap.size w1 wr) (fun i _ => m - (intOf i).toNat)
  case atStart => exact ⟨0, Nat.zero_le _, rfl, HR0.out, HB2.out⟩
  case round =>
    obtain ⟨k, hk, rfl, hrow, hbr⟩ := hrel
    have HR := Lib.hid hrow
    have HBR := Lib.hid hbr
    clear hrow hbr HR0 HB2
    by_cases hlk : k < m
    · obtain ⟨rfl, hk1⟩ := HQ.out (by omega)
      have hka2 : k < t.args.length := by
        have := HM.out
        rw [sc_not hk1] at this
        omega
      obtain ⟨b', o', tp', tc', rp', rc', p', c', rfl, hC', hb', h9', hx'⟩ := tm_part HT.out.args k hka2
      have f0 := HR.out.ptr hlk
      have fz := HR.out.frozen
      have HNX := Lib.hid HR.out.next
      have i0 : (0 : Int) ≤ (k : Int) := Int.natCast_nonneg _
      have i1 : (k : Int) < (m : Int) := by omega
      clear h9' hx' hk1 hka2
      go_wp2_with fail
      go_roundw
      case rel => exact ⟨k + 1, by omega, by go_num, HNX.out, HBR.out.setCell (p := ⟨w1.heap.size, k * 2, none⟩) (Nat.le_refl _) _⟩
      case measure => simp [intOf]; omega
    · obtain rfl : k = m := by omega
      obtain ⟨hsb, hbb, rb⟩ := HW.out
      have hbw := hbb.trans (HBR.out.mono hbb.size)
      have r2 := (HBR.out.block w.heap.size (by omega)).trans rb
      have k0 := cell_of_blk r2 0
      have k1 := cell_of_blk r2 1
      simp only [List.getElem?_toArray, List.getElem?_cons_zero, List.getElem?_cons_succ] at k0 k1
      have HN := Lib.hid (bndI_any (H9.out.keep (hbw.block b hb)) (HK.out.below hbw) hn)
      have HBW := Lib.hid hbw
      have HSB := Lib.hid hsb
      clear hsb hbb rb hbw r2
      go_wp2_with fail
      refine HN.out.mono ?_
      rintro e w3 ⟨v3, rfl, hnm, hb3⟩
      have HR3 := Lib.hid (HR.out.below hb3)
      have HB3 := Lib.hid (HBW.out.trans (hb3.mono HBW.out.size))
      have HNM := Lib.hid hnm
      have HNA := Lib.hid (hnm.at)
      have HS3 := Lib.hid hb3.size
      clear k0 k1 hb3
      rcases HNM.out with ⟨hb0, rfl⟩ | ⟨hb0, hown⟩
      · have HB0 := Lib.hid hb0
        clear hb0 hnm
        go_wp2_with fail
        go_ret
        have hsb := HSB.out
        exact ⟨_, rfl, lq_fin HR3.out (by omega) HM.out (fun h => (HQ.out h).2) (by unfold maxLen; omega) HB3.out HT.out (by rw [HB0.out]; exact Or.inl ⟨rfl, rfl⟩), HB3.out⟩
      · have hk0 : 0 < k := by
          have h1 : ¬ t.sc.length = 0 := fun h => by
            unfold Tm.sc at h
            unfold Tm.bnd at hb0
            split at h
            · rename_i h1
              rw [if_neg (fun e => by omega), if_neg (fun e => by omega), if_neg (fun e => by omega)] at hb0
              exact hb0 rfl
            · rw [if_neg (fun e => by omega), if_neg (fun e => by omega), if_neg (fun e => by omega)] at hb0
              exact hb0 rfl
          have := HM.out
          omega
        obtain ⟨pn, cn, rfl, -⟩ := hown.ss.at
        rcases HNA.out with ⟨h1, -⟩ | ⟨-, g, cap, hv, hg1, hg2, hg3⟩
        · exact absurd h1 hb0
        simp only [Value.slice.injEq, true_and] at hv
        obtain ⟨rfl, rfl⟩ := hv
        have n0 := HR3.out.nms (j := k - 1) (by omega)
        have fz := HR3.out.frozen
        have HNX := Lib.hid (HR3.out.named (.slice (some ⟨g, 0, none⟩) t.bnd.length cn) hk0)
        have e1 : (k : Int) - 1 = ((k - 1 : Nat) : Int) := by omega
        have i0 : (0 : Int) ≤ (k : Int) - 1 := by omega
        have i1 : (k : Int) - 1 < (k : Int) := by omega
        have HG3 := Lib.hid hg3
        have HB0 := Lib.hid hb0
        have HG12 := Lib.hid (And.intro hg1 hg2)
        clear hb0 hnm hown hg1 hg2 hg3
        go_wp2_with fail
        go_ret
        have hsb := HSB.out
        have hGl := HR.out.lt
        obtain ⟨hg1, hg2⟩ := HG12.out
        have hbf : Below w.heap.size w (w3.setCell ⟨w1.heap.size, (k - 1) * 2 + 1, none⟩ (.slice (some ⟨g, 0, none⟩) t.bnd.length cn)) := HB3.out.setCell (p := ⟨w1.heap.size, (k - 1) * 2 + 1, none⟩) (by show w.heap.size ≤ w1.heap.size; omega) _
        have hsz : (w3.setCell ⟨w1.heap.size, (k - 1) * 2 + 1, none⟩ (.slice (some ⟨g, 0, none⟩) t.bnd.length cn)).heap.size = w3.heap.size := by simp [World.setCell]
        have hwr := HBW.out.size
        refine ⟨_, rfl, lq_fin HNX.out (by omega) HM.out (fun h => (HQ.out h).2) (by unfold maxLen; omega) hbf HT.out (Or.inr ⟨HB0.out, g, cn, rfl, ⟨by omega, by rw [hsz]; exact hg2⟩, by rw [hsz]; exact hg2, fun j x hj => ?_⟩), hbf⟩
        rw [World.cell?_of_block (w := w3) (a := ⟨g, j, none⟩) (Below.heap_setCell _ _ _ _ (by show g ≠ w1.heap.size; omega))]
        exact HG3.out j x hj
end Go.Proofs.YtfeijijeohfpgaaDoor
namespace Go.Proofs.YtfeijijeohfpgaaDoor
open Go Go.RowKit Go.Shelf
attribute [local go_sem] Oper.semAt_some

abbrev PQ := Tm × List ByteArray
def listQ : List PQ → Nat → List (Tm × List ByteArray × Nat)
  | [], _ => []
  | e :: l, d => walkQ e.1 e.2 d ++ listQ l d
theorem walkQS_list (b : Nat → List ByteArray) : ∀ (ts : List Tm) (k d : Nat), walkQS b k ts d = listQ (ts.mapIdx fun i x => (x, b (k + i))) d
  | [], _, _ => rfl
  | t :: ts, k, d => by
    rw [walkQS, walkQS_list b ts (k + 1) d, List.mapIdx_cons]
    simp only [listQ, Nat.add_zero]
    congr 3
    funext i x
    rw [show k + 1 + i = k + (i + 1) by omega]
theorem walkQ_eq (t : Tm) (nm : List ByteArray) (d : Nat) : walkQ t nm d = (t, nm, d) :: listQ (partsQ t) (d + 1) := by
  cases t with
  | mk k a o n ty r ts =>
    rw [walkQ]
    by_cases h : k = 1
    · rw [if_pos h]
      simp [partsQ, Tm.sc, Tm.kind, h, listQ]
    · rw [if_neg h, walkQS_list]
      simp [partsQ, Tm.sc, Tm.kind, h, Tm.args]
abbrev WaitQ := List (List PQ × Value)
def rWQ : WaitQ → List (Tm × List ByteArray × Nat)
  | [] => []
  | e :: r => listQ e.1 (r.length + 1) ++ rWQ r
def stWalkQ (st : WaitQ) : List (Tm × List ByteArray × Nat) := rWQ st.reverse
theorem stWalkQ_snoc (st : WaitQ) (e : List PQ × Value) : stWalkQ (st ++ [e]) = listQ e.1 (st.length + 1) ++ stWalkQ st := by simp [stWalkQ, rWQ]
theorem wsndQ_last (st : WaitQ) (e : List PQ × Value) : ((st ++ [e]).map (·.2))[st.length]? = some e.2 := by simp
theorem wsndQ_take (st : WaitQ) (e : List PQ × Value) : ((st ++ [e]).map (·.2)).take (st.length * 1) = st.map (·.2) := by simp
theorem wsndQ_set (st : WaitQ) (e : List PQ × Value) (l : List PQ) (u : Value) : ((st ++ [e]).map (·.2)).set st.length u = (st ++ [(l, u)]).map (·.2) := by
  simp
theorem infoLQ : (Tryd.prog.info? 131).map (fun i => (i.zero, i.size, i.bytes)) = some (some (.slice none 0 0), 1, 24) := by kernel_rfl
theorem KA.stays {w w' : World} {C : Nat → Prop} (h : KA w) (hs : Stays C w w') (hC : C 1) : KA w' := by
  refine ⟨?_, Nat.lt_of_lt_of_le h.2 hs.1⟩
  have h1 := h.1
  unfold Lib.TabIs World.var? at h1 ⊢
  simp only [gKA, Option.bind_some] at h1 ⊢
  rw [hs.2 _ hC h.2]
  exact h1
theorem sc_wt (t : Tm) {x : Tm} (hx : x ∈ t.sc) : x.wt ≤ t.wt := by
  have h1 := t.wt_eq
  unfold Tm.sc at hx
  split at hx
  · simp at hx
  · obtain ⟨i, hi, rfl⟩ := List.mem_iff_getElem.1 hx
    have := wtS_at t.args i hi
    omega
theorem partsQ_wt (t : Tm) {e : PQ} (he : e ∈ partsQ t) : e.1.wt ≤ t.wt := by
  unfold partsQ at he
  obtain ⟨i, hi, rfl⟩ := List.mem_mapIdx.1 he
  exact sc_wt t (List.getElem_mem _)
theorem LQ.form {w : World} {C Z : Nat → Prop} {l : List PQ} {v : Value} (h : LQ w C Z l v) : ∃ q c, v = .slice q l.length c := by
  obtain ⟨q, c, h1, _⟩ := h
  exact ⟨q, c, h1⟩
theorem NamesAt.own {w : World} {Z : Nat → Prop} {xs : List ByteArray} {s : Value} (h : NamesAt w Z xs s) : NamesAt w (fun z => s.ownBlock = some z) xs s ∧ ∀ z, s.ownBlock = some z → Z z := by
  rcases h with ⟨h0, rfl⟩ | ⟨h0, g, cap, rfl, h2, h3, h4⟩
  · exact ⟨Or.inl ⟨h0, rfl⟩, fun z hz => by cases hz⟩
  · exact ⟨Or.inr ⟨h0, g, cap, rfl, rfl, h3, h4⟩, fun z hz => by cases hz; exact h2⟩
theorem LQ.open {w : World} {C Z : Nat → Prop} {x : PQ} {l : List PQ} {v : Value} (h : LQ w C Z (x :: l) v) :
    ∃ (b o c b1 o1 : Nat) (s : Value), v = .slice (some ⟨b, o, none⟩) (l.length + 1) c ∧ l.length + 1 ≤ c ∧ c ≤ maxLen ∧ Z b ∧ b < w.heap.size ∧ w.cell? ⟨b, o, none⟩ = some (.pointer (some ⟨b1, o1, none⟩)) ∧ w.cell? ⟨b, o + 1, none⟩ = some s ∧
      TermAt w C x.1 b1 o1 ∧ NamesAt w Z x.2 s ∧ ∀ q, (l ≠ [] → q = some ⟨b, o + 2, none⟩) → LQ w C Z l (.slice q l.length (c - 1)) := by
  obtain ⟨q, c, rfl, h2, h3, h4⟩ := h
  obtain ⟨b, o, b1, o1, s, rfl, e2, e3, e4, e5, e6, e7⟩ := h4 0 (by simp)
  simp only [List.length_cons] at h2
  refine ⟨b, o, c, b1, o1, s, rfl, h2, h3, e2, e3, by simpa using e4, by simpa using e5, e6, e7, fun q hq => ⟨q, c - 1, rfl, by omega, by omega, fun j hj => ?_⟩⟩
  obtain ⟨b', o', b1', o1', s', f1, f2, f3, f4, f5, f6, f7⟩ := h4 (j + 1) (by simp; omega)
  simp only [Option.some.injEq, Addr.mk.injEq, and_true] at f1
  obtain ⟨rfl, rfl⟩ := f1
  refine ⟨b, o + 2, b1', o1', s', hq (fun e => by rw [e] at hj; simp at hj), f2, f3, ?_, ?_, by simpa using f6, by simpa using f7⟩
  · rw [show o + 2 + j * 2 = o + (j + 1) * 2 by omega]; exact f4
  · rw [show o + 2 + j * 2 + 1 = o + (j + 1) * 2 + 1 by omega]; exact f5

abbrev QI := Tm × List ByteArray × Nat
abbrev QA := QI × (Nat × Nat × Value)
abbrev encQ (x : QA) : Array Value := #[.agg #[.pointer (some ⟨x.2.1, x.2.2.1, none⟩), x.2.2.2], .int .i64 (x.1.2.2 : Nat)]
abbrev keyQ (x : QA) : QI := x.1
def GoodQ (C : Nat → Prop) (x : QA) (Y : Nat → Prop) (W : World) : Prop := TermAt W C x.1.1 x.2.1 x.2.2.1 ∧ NamesAt W Y x.1.2.1 x.2.2.2 ∧ ∀ z, Y z → x.2.2.2.ownBlock = some z
structure MidQ (W wr : World) (C : Nat → Prop) (J : List QI → (Nat → Prop) → (Nat → Prop) → World → Prop) (B N Z : Nat → Prop) (pre : List QI) (st : WaitQ) (g cap : Nat) : Prop where
  own : wr.ownsRow (W.heap.size + 1) 131 1 (.slice (some ⟨g, 0, none⟩) st.length cap) st.length (st.map (·.2))
  j : J pre B N wr
  ls : ∀ e ∈ st, LQ wr C Z e.1 e.2
  wts : ∀ e ∈ st, ∀ y ∈ e.1, y.1.wt ≤ 2097152
  stays : Stays C W wr
  size : W.heap.size ≤ wr.heap.size
  cnt : st.length ≤ pre.length + 1
  zg : ∀ z, Z z → z < wr.heap.size ∧ z ≠ g ∧ ¬ B z
  bl : ∀ b, B b → b < wr.heap.size ∧ b ≠ g ∧ ¬ C b
  nz : ∀ z, N z → Z z
end Go.Proofs.YtfeijijeohfpgaaDoor
namespace Go.Proofs.YtfeijijeohfpgaaDoor
open Go Go.RowKit Go.Shelf
attribute [local go_sem] Oper.semAt_some

set_option maxRecDepth 100000 in
set_option maxHeartbeats 4000000 in
theorem nodesQ_it (l Bt Bp : Nat) (t : Tm) (b0 o0 : Nat) (C B0 : Nat → Prop) (W : World) (J Jx : List QI → (Nat → Prop) → (Nat → Prop) → World → Prop)
    (hBt : W.heap[Bt]? = some (.cells #[.pointer (some ⟨b0, o0, none⟩), .slice none 0 0] 111 (0, 0))) (hBp : W.heap[Bp]? = some (.cells #[.func (.func 98) #[] #[]] 112 (0, 0))) (hT : TermAt W C t b0 o0) (hn : t.wt ≤ 2097152)
    (hka : KA W) (hkc : C 1) (hC : ∀ b, C b → b < W.heap.size) (hCB : ∀ b, C b → ¬ B0 b) (hB0 : ∀ b, B0 b → b < W.heap.size) (hCp : C Bp)
    (hJ : ∀ pre B N A A', J pre B N A → Keep W.heap.size (fun z => B z ∨ N z) A A' → J pre B N A')
    (hY : ∀ pre x Y B N W1, J pre B N W1 → pre ++ [keyQ x] <+: walkQ t [] 1 → GoodQ C x Y W1 → (∀ z, Y z → ¬ B z) → YieldAt Fence.wide 0 Tryd.prog l (encQ x) W1 fun e W' =>
      ∃ B' N', Grew B B' W1.heap.size W'.heap.size ∧ (∀ z, N' z → N z ∨ Y z) ∧ ((e = .returned (.bool true) ∧ J (pre ++ [keyQ x]) B' N' W' ∧ Holds B W1 W') ∨ (e = .returned (.bool false) ∧ Jx (pre ++ [keyQ x]) B' N' W' ∧ Holds B W1 W')))
    (h0 : J [] B0 (fun _ => False) W) :
    CallsIn Fence.wide 1 Tryd.prog 110 #[.func (.yield l) #[] #[], .pointer (some ⟨Bt, 0, none⟩), .pointer (some ⟨Bp, 0, none⟩)] W fun e W' =>
      (∃ v, e = .returned v) ∧ ((∃ B' N', J (walkQ t [] 1) B' N' W') ∨ ∃ pre B' N', pre <+: walkQ t [] 1 ∧ Jx pre B' N' W') := by
  obtain ⟨i0, hi, hz0, hz1, hz2⟩ := info_parts infoLQ
  have HT := Lib.hid hT
  have HY := Lib.hid hY
  have HJ := Lib.hid hJ
  have HJ0 := Lib.hid h0
  have HB0 := Lib.hid hB0
  have HC := Lib.hid hC
  have HCB := Lib.hid hCB
  have HCP := Lib.hid hCp
  have HBP := Lib.hid hBp
  have HN := Lib.hid hn
  have HKA := Lib.hid hka
  have HKC := Lib.hid hkc
  have k0 := cell_of_blk hBt 0
  have k1 := cell_of_blk hBt 1
  have kp := cell_of_blk hBp 0
  simp only [List.getElem?_toArray, List.getElem?_cons_zero, List.getElem?_cons_succ] at k0 k1 kp
  have hlen1 : (walkQ t [] 1).length ≤ 2097153 := Nat.le_trans (walkQ_nodes t [] 1) (by have := t.nodes_wt; omega)
  have HLN := Lib.hid hlen1
  clear hT hY hJ h0 hB0 hC hCB hBt hBp hn hka hkc hlen1 hCp
  refine callsIn_of_wp Tryd.func110 rfl trivial ?_ rfl
  simp only [Tryd.ntmps110, List.size_toArray, List.length_cons, List.length_nil, Nat.reduceAdd, Nat.reduceSub, Array.replicate_succ, Array.replicate_zero, List.push_toArray, List.append_toArray, List.nil_append, List.cons_append]
  gi_wp2_with fail
  gi_loopg [4] (2 * (walkQ t [] 1).length + 1) (fun k v wr => ∃ (pre : List QI) (st : WaitQ) (g cap : Nat) (B N Z : Nat → Prop), v = .slice (some ⟨g, 0, none⟩) st.length cap ∧ k = 2 * (stWalkQ st).length + st.length ∧ pre ++ stWalkQ st = walkQ t [] 1 ∧ MidQ W wr C J B N Z pre st g cap)
  case atStart =>
    refine ⟨[], [([(t, [])], .slice (some ⟨W.heap.size, 0, none⟩) 1 1)], W.heap.size + 1, 1, B0, fun _ => False, fun z => z = W.heap.size, rfl, by simp [stWalkQ, rWQ, listQ], by simp [stWalkQ, rWQ, listQ], ?_⟩
    have hb : Below W.heap.size W ((W.alloc (.cells #[.pointer (some ⟨b0, o0, none⟩), .slice none 0 0] 111)).alloc (.cells #[.slice (some ⟨W.heap.size, 0, none⟩) 1 1] 131)) := ((Below.refl _ W).alloc (Nat.le_refl _) _).alloc (by simp) _
    have hroot : ((W.alloc (.cells #[.pointer (some ⟨b0, o0, none⟩), .slice none 0 0] 111)).alloc (.cells #[.slice (some ⟨W.heap.size, 0, none⟩) 1 1] 131)).heap[W.heap.size]? = some (.cells #[.pointer (some ⟨b0, o0, none⟩), .slice none 0 0] 111 (0, 0)) := by
      rw [Below.heap_alloc _ _ _ (by simp)]
      exact blk_new _ _
    refine ⟨?_, HJ.out _ _ _ _ _ HJ0.out (.of_below (Nat.le_refl _) hb), fun e he => ?_, fun e he y hy => ?_, .of_below hb, hb.size, by simp, fun z hz => ?_, fun b hb' => ?_, fun z hz => hz.elim⟩
    · have h1 := World.ownsRow_lit (base := W.heap.size + 1) (e := 131) (size := 1) (W.alloc (.cells #[.pointer (some ⟨b0, o0, none⟩), .slice none 0 0] 111)) #[.slice (some ⟨W.heap.size, 0, none⟩) 1 1] 1 (by simp) (by unfold maxLen; omega) rfl
      rw [show (W.alloc (.cells #[.pointer (some ⟨b0, o0, none⟩), .slice none 0 0] 111)).heap.size = W.heap.size + 1 by simp] at h1
      exact h1
    · simp only [List.mem_singleton] at he
      subst he
      refine ⟨_, 1, rfl, by simp, by unfold maxLen; omega, fun j hj => ?_⟩
      have hj0 : j = 0 := by simp at hj; exact hj
      subst hj0
      exact ⟨W.heap.size, 0, b0, o0, .slice none 0 0, rfl, rfl, (Array.getElem?_eq_some_iff.1 hroot).1, cell_of_blk hroot 0, cell_of_blk hroot 1, HT.out.stays (.of_below hb), Or.inl ⟨rfl, rfl⟩⟩
    · simp only [List.mem_singleton] at he
      subst he
      simp only [List.mem_singleton] at hy
      subst hy
      exact HN.out
    · subst hz
      exact ⟨(Array.getElem?_eq_some_iff.1 hroot).1, by omega, fun h => by have := HB0.out _ h; omega⟩
    · have := HB0.out b hb'
      exact ⟨Nat.lt_of_lt_of_le this hb.size, by omega, fun h => HCB.out b h hb'⟩
  case round =>
    rename World => wo
    obtain ⟨pre, st, g, cap, B, N, Z, rfl, rfl, hord, hM⟩ := hrel
    rcases snoc_cases st with rfl | ⟨st0, ⟨ls, sl⟩, rfl⟩
    · have HM := Lib.hid hM
      have HO := Lib.hid hord
      clear hM hord
      gi_wp2
      go_end0
      have hp : pre = walkQ t [] 1 := by have := HO.out; simpa [stWalkQ, rWQ] using this
      exact ⟨⟨_, rfl⟩, .inl ⟨B, N, hp ▸ HM.out.j⟩⟩
    · have hlen : (st0 ++ [((ls, sl) : List PQ × Value)]).length = st0.length + 1 := by simp
      have hown := hM.own
      rw [hlen] at hown
      rw [hlen]
      obtain ⟨hcap1, hcap2, hg1, hg2⟩ := row_cap hown
      have k0 := (hown.cellAt st0.length (by omega)).trans (wsndQ_last st0 _)
      have kz := hown.frozenAt st0.length
      simp only at k0
      unfold maxLen at hcap2
      have i0' : (0 : Int) ≤ (st0.length : Int) := Int.natCast_nonneg _
      have i1' : (st0.length : Int) < ((st0.length : Int) + 1) := by omega
      have hcnt : st0.length ≤ 2097154 := by
        have h1 := hM.cnt
        have h2 := congrArg List.length hord
        have h3 := HLN.out
        rw [List.length_append] at h2
        rw [hlen] at h1
        omega
      cases ls with
      | nil =>
        have HM := Lib.hid hM
        have HO := Lib.hid hord
        have HOWN := Lib.hid hown
        obtain ⟨a, c0, hsl⟩ : ∃ a c, sl = .slice a 0 c := (hM.ls ([], sl) (by simp)).form
        subst hsl
        clear hM hord hown
        gi_wp2_with fail
        go_roundg (2 * (stWalkQ st0).length + st0.length)
        case rel =>
          have h1 := row_take HOWN.out (Nat.le_succ st0.length)
          rw [wsndQ_take] at h1
          refine ⟨pre, st0, g, cap, B, N, Z, rfl, rfl, by have := HO.out; rwa [stWalkQ_snoc] at this, h1, HM.out.j, fun e he => HM.out.ls e (List.mem_append_left _ he), fun e he => HM.out.wts e (List.mem_append_left _ he), HM.out.stays, HM.out.size, ?_, HM.out.zg, HM.out.bl, HM.out.nz⟩
          have := HM.out.cnt
          rw [List.length_append] at this
          omega
        case measure =>
          rw [stWalkQ_snoc, List.length_append, List.length_append]
          simp only [listQ, List.length_nil, List.length_singleton]
          omega
      | cons x ls =>
        obtain ⟨b, o, c0, b1, o1, sv, rfl, hlc, hc63, hZb, hbw, f0, f1, htm, hnm, htail⟩ := (hM.ls (x :: ls, sl) (by simp)).open
        have hbg : b ≠ g := (hM.zg b hZb).2.1
        obtain ⟨q, hq⟩ : ∃ q, (if c0 = 1 then some (⟨b, o, none⟩ : Addr) else some ⟨b, o + 2, none⟩) = q := ⟨_, rfl⟩
        have htl : LQ wo C Z ls (.slice q ls.length (c0 - 1)) := htail q (fun hne => by
          have h1 : 1 ≤ ls.length := by cases ls with | nil => exact absurd rfl hne | cons => simp
          rw [← hq, if_neg (by omega)])
        obtain ⟨hst, hgr⟩ := hown.stored st0.length (.slice q ls.length (c0 - 1))
        rw [wsndQ_set st0 _ ls] at hst
        have hb1 : Below (W.heap.size + 1) wo (wo.setCell ⟨g, st0.length, none⟩ (.slice q ls.length (c0 - 1))) := (Below.refl _ wo).setCell (p := ⟨g, st0.length, none⟩) hg1 _
        have hoth : ∀ z, z ≠ g → (wo.setCell ⟨g, st0.length, none⟩ (.slice q ls.length (c0 - 1))).heap[z]? = wo.heap[z]? := fun z hz => Below.heap_setCell _ _ _ _ hz
        have hsC : Stays C wo (wo.setCell ⟨g, st0.length, none⟩ (.slice q ls.length (c0 - 1))) := ⟨hb1.size, fun z hz _ => hoth z (by have := HC.out z hz; omega)⟩
        have hsZ : Stays Z wo (wo.setCell ⟨g, st0.length, none⟩ (.slice q ls.length (c0 - 1))) := ⟨hb1.size, fun z hz _ => hoth z (hM.zg z hz).2.1⟩
        have hpre : pre ++ [(x.1, x.2, st0.length + 1)] <+: walkQ t [] 1 := ⟨listQ (partsQ x.1) (st0.length + 1 + 1) ++ (listQ ls (st0.length + 1) ++ stWalkQ st0), by rw [← hord, stWalkQ_snoc]; simp only [listQ, walkQ_eq, List.cons_append, List.append_assoc, List.nil_append]⟩
        obtain ⟨hnmo, hnmz⟩ := (hnm.stays hsZ).own
        obtain ⟨fn, tmps, assign, body, hy, hR⟩ := HY.out pre ((x.1, x.2, st0.length + 1), (b1, o1, sv)) (fun z => sv.ownBlock = some z) B N _ (HJ.out _ _ _ _ _ hM.j ⟨hb1.mono (by omega), fun z hz _ => hoth z (by
          rcases hz with hz | hz
          · exact (hM.bl z hz).2.1
          · exact (hM.zg z (hM.nz z hz)).2.1)⟩) hpre ⟨htm.stays hsC, hnmo, fun z hz => hz⟩ (fun z hz => (hM.zg z (hnmz z hz)).2.2)
        simp only [encQ] at hy
        rw [show ((st0.length + 1 : Nat) : Int) = (st0.length : Int) + 1 from rfl] at hy
        have HM := Lib.hid hM
        have HO := Lib.hid hord
        have HST := Lib.hid hst
        have HB1 := Lib.hid hb1
        have HSC := Lib.hid hsC
        have HSZ := Lib.hid hsZ
        have HPRE := Lib.hid hpre
        have HR := Lib.hid hR
        have HTL := Lib.hid htl
        have HTM := Lib.hid htm
        have HNZ := Lib.hid hnmz
        have HF := Lib.hid (And.intro f0 f1)
        have HZB := Lib.hid hZb
        have HQ := Lib.hid hlc
        have HOT := Lib.hid hoth
        have hl1 : (1 : Int) ≤ ((ls.length : Int) + 1) := by omega
        unfold maxLen at hc63
        clear hM hord hown hst hgr hb1 hsC hsZ hpre hR htl htail htm hnm hnmo hnmz hZb hoth
        gi_wp2_with fail
        refine HR.out.mono ?_
        rintro e W3 ⟨B', N', hgrew, hN', ⟨rfl, hJ3, hH3⟩ | ⟨rfl, hJx3, -⟩⟩
        · have hs1 : (wo.setCell ⟨g, st0.length, none⟩ (.slice q ls.length (c0 - 1))).heap.size = wo.heap.size := by simp [World.setCell]
          rw [hs1] at hgrew
          have hs3 : wo.heap.size ≤ W3.heap.size := hs1 ▸ hH3.1
          have hgB : ¬ B g := fun h => (HM.out.bl g h).2.1 rfl
          have hkz : ∀ z, ¬ B z → z ≠ g → z < wo.heap.size → W3.heap[z]? = wo.heap[z]? := fun z h1 h2 h3 => (hH3.2 z (by rw [hs1]; exact h3) h1).trans (HOT.out z h2)
          have hC3 : Stays C wo W3 := ⟨hs3, fun z hz hl => hkz z (fun h => (HM.out.bl z h).2.2 hz) (by have := HC.out z hz; omega) hl⟩
          have hZ3 : Stays Z wo W3 := ⟨hs3, fun z hz hl => hkz z (HM.out.zg z hz).2.2 (HM.out.zg z hz).2.1 hl⟩
          have hCW : Stays C W W3 := HM.out.stays.trans hC3
          have hb3 : W3.heap[b]? = wo.heap[b]? := hkz b (HM.out.zg b HZB.out).2.2 hbg hbw
          have hown3 := row_of_block HST.out (hH3.2 g (by rw [hs1]; exact hg2) hgB)
          have hlen3 : (st0 ++ [(ls, Value.slice q ls.length (c0 - 1))]).length = st0.length + 1 := by simp
          have hM3 : MidQ W W3 C J B' N' Z (pre ++ [(x.1, x.2, st0.length + 1)]) (st0 ++ [(ls, .slice q ls.length (c0 - 1))]) g cap := by
            refine ⟨?_, hJ3, fun e he => ?_, fun e he y hy => ?_, hCW, Nat.le_trans HM.out.size hs3, ?_, fun z hz => ?_, fun z hz => ?_, fun z hz => ?_⟩
            · rw [hlen3]; exact hown3
            · rcases List.mem_append.1 he with he | he
              · exact (HM.out.ls e (List.mem_append_left _ he)).stays hC3 hZ3
              · simp only [List.mem_singleton] at he
                subst he
                exact HTL.out.stays hC3 hZ3
            · rcases List.mem_append.1 he with he | he
              · exact HM.out.wts e (List.mem_append_left _ he) y hy
              · simp only [List.mem_singleton] at he
                subst he
                exact HM.out.wts (x :: ls, _) (List.mem_append_right _ (List.mem_singleton.2 rfl)) y (List.mem_cons_of_mem _ hy)
            · have := HM.out.cnt
              rw [hlen] at this
              rw [hlen3, List.length_append, List.length_singleton]
              omega
            · obtain ⟨h1, h2, h3⟩ := HM.out.zg z hz
              exact ⟨Nat.lt_of_lt_of_le h1 hs3, h2, fun h => ((hgrew z h).1).elim h3 (fun h => by omega)⟩
            · obtain ⟨h1, h2⟩ := hgrew z hz
              rcases h1 with h1 | h1
              · exact ⟨h2, (HM.out.bl z h1).2⟩
              · exact ⟨h2, by omega, fun h => by have := HC.out z h; have := HM.out.size; omega⟩
            · rcases hN' z hz with h1 | h1
              · exact HM.out.nz z h1
              · exact HNZ.out z h1
          obtain ⟨f0, f1⟩ := HF.out
          have g0 := (World.cell?_of_block (a := ⟨b, o, none⟩) hb3).trans f0
          have g1 := (World.cell?_of_block (a := ⟨b, o + 1, none⟩) hb3).trans f1
          have kp3 := cell_of_blk ((hCW.2 Bp HCP.out (HC.out Bp HCP.out)).trans HBP.out) 0
          simp only [List.getElem?_toArray, List.getElem?_cons_zero] at kp3
          have HK3 := Lib.hid (HKA.out.stays hCW HKC.out)
          have HT3 := Lib.hid (HTM.out.stays hC3)
          have HXW := Lib.hid (HM.out.wts (x :: ls, _) (List.mem_append_right _ (List.mem_singleton.2 rfl)) x (by simp))
          have HM3 := Lib.hid hM3
          have HOWN3 := Lib.hid hown3
          have hsz3 : W.heap.size + 1 ≤ W3.heap.size := by omega
          have HCN := Lib.hid HM.out.cnt
          clear hJ3 hH3 hown3 hM3 hy HR k0 kz hb3 hkz hC3 hZ3 hCW f0 f1 HB1 HST HSC HSZ hgrew hN' hs1
          gi_wp2_with fail
          refine wpIn_wide.2 ?_
          go_region_law (first
            | (refine step_app1 (w0 := w1) (base := W.heap.size + 1) (v := .slice (some ⟨g, 0, none⟩) (st0.length + 1) cap) (n := st0.length + 1) (xs := (st0 ++ [(ls, Value.slice q ls.length (c0 - 1))]).map (·.2)) (cs := [.slice vq (partsQ x.1).length vc]) rfl (.tmp 40) (.tmp 46) rfl Tryd.underlying132 hi hz0 hz1 hz2 rfl (by decide) rfl (row_below HOWN3.out ((Below.refl W3.heap.size W3).drew.trans hb1)) _ rfl (by simp) rfl (fun u hu => by simp at hu; subst hu; rfl) (by unfold maxLen; omega) (by omega) (by have := hb1.size; simp at this; omega) ?_; intro w' g2 cap2 hA)
            | (go_simp; go_at_call 98; refine (partsI_any (C := C) (HT3.out.stays (.of_below ((Below.refl W3.heap.size W3).drew))) (HK3.out.below ((Below.refl W3.heap.size W3).drew)) HXW.out).mono ?_; rintro e w1 ⟨v, rfl, hlq, hb1⟩; obtain ⟨vq, vc, rfl⟩ := hlq.form))
          all_goals
            have HA := Lib.hid hA
            have HB := Lib.hid hb1
            have HL := Lib.hid hlq
            clear hA hb1 hlq
            gi_wp2_with fail
            go_roundg (2 * (stWalkQ ((st0 ++ [(ls, Value.slice q ls.length (c0 - 1))]) ++ [(partsQ x.1, .slice vq (partsQ x.1).length vc)])).length + (st0.length + 2))
            case rel =>
              have hb3 : Below W3.heap.size W3 w1 := (Below.refl W3.heap.size W3).drew.trans HB.out
              have hlen3 : (st0 ++ [(ls, Value.slice q ls.length (c0 - 1))]).length = st0.length + 1 := by simp
              have hg3 := (row_cap HOWN3.out).2.2
              have hs3 := hb3.size
              have hs4 := HA.out.size
              have hbw : Below (W.heap.size + 1) W3 w' := (hb3.mono (by omega)).trans HA.out.below
              have hown1 : ∀ z, z ≠ g → (Value.slice (some ⟨g, 0, none⟩) (st0.length + 1) cap).ownBlock ≠ some z := fun z hz e => hz (by simp only [Value.ownBlock, Option.some.injEq] at e; exact e.symm)
              have hk1 : ∀ z, z ≠ g → z < w1.heap.size → w'.heap[z]? = w1.heap[z]? ∧ g2 ≠ z := fun z hz hl => HA.out.kept z hl (hown1 z hz)
              have hk : ∀ z, z ≠ g → z < W3.heap.size → w'.heap[z]? = W3.heap[z]? := fun z hz hl => (hk1 z hz (Nat.lt_of_lt_of_le hl hs3)).1.trans (hb3.block z hl)
              have hCg : ∀ z, C z → z ≠ g := fun z hz => by have := HC.out z hz; omega
              have hCw : Stays C W3 w' := ⟨Nat.le_trans hs3 hs4, fun z hz hl => hk z (hCg z hz) hl⟩
              have hZw : Stays Z W3 w' := ⟨Nat.le_trans hs3 hs4, fun z hz hl => hk z (HM3.out.zg z hz).2.1 hl⟩
              have hC1 : Stays C w1 w' := ⟨hs4, fun z hz hl => (hk1 z (hCg z hz) hl).1⟩
              refine ⟨pre ++ [(x.1, x.2, st0.length + 1)], (st0 ++ [(ls, .slice q ls.length (c0 - 1))]) ++ [(partsQ x.1, .slice vq (partsQ x.1).length vc)], g2, cap2, B', N', fun z => Z z ∨ (W3.heap.size ≤ z ∧ z < w1.heap.size), by rw [List.length_append, hlen3]; rfl, by rw [List.length_append, hlen3]; rfl, ?_, ?_⟩
              · rw [stWalkQ_snoc, hlen3, stWalkQ_snoc, ← HO.out, stWalkQ_snoc]
                simp only [listQ, walkQ_eq, List.cons_append, List.append_assoc, List.nil_append]
              · refine ⟨?_, HJ.out _ _ _ _ _ HM3.out.j ⟨hbw.mono (by omega), fun z hz hl => hk z ?_ hl⟩, fun e he => ?_, fun e he y hy => ?_, HM3.out.stays.trans hCw, by have := HM3.out.size; omega, ?_, fun z hz => ?_, fun z hz => ?_, fun z hz => Or.inl (HM3.out.nz z hz)⟩
                · rw [List.map_append, List.length_append, hlen3]
                  exact HA.out.own
                · rcases hz with hz | hz
                  · exact (HM3.out.bl z hz).2.1
                  · exact (HM3.out.zg z (HM3.out.nz z hz)).2.1
                · rcases List.mem_append.1 he with he | he
                  · exact ((HM3.out.ls e he).stays hCw hZw).mono (fun z hz _ => Or.inl hz)
                  · simp only [List.mem_singleton] at he
                    subst he
                    exact (HL.out.stays hC1 ⟨hs4, fun z hz hl => (hk1 z (by have := hz.1; simp at this; omega) hl).1⟩).mono (fun z hz _ => Or.inr (by simpa using hz))
                · rcases List.mem_append.1 he with he | he
                  · exact HM3.out.wts e he y hy
                  · simp only [List.mem_singleton] at he
                    subst he
                    exact Nat.le_trans (partsQ_wt x.1 hy) HXW.out
                · have := HCN.out
                  rw [hlen] at this
                  simp only [List.length_append, List.length_cons, List.length_nil]
                  omega
                · rcases hz with hz | hz
                  · obtain ⟨h1, h2, h3⟩ := HM3.out.zg z hz
                    exact ⟨by omega, fun e => (hk1 z h2 (by omega)).2 e.symm, h3⟩
                  · exact ⟨by omega, fun e => (hk1 z (by omega) hz.2).2 e.symm, fun h => by have := (HM3.out.bl z h).1; omega⟩
                · obtain ⟨h1, h2, h3⟩ := HM3.out.bl z hz
                  exact ⟨by omega, fun e => (hk1 z h2 (by omega)).2 e.symm, h3⟩
            case measure =>
              have h1 := HO.out
              simp only [stWalkQ_snoc, listQ, walkQ_eq, List.length_append, List.length_cons, List.length_nil, Nat.zero_add]
              omega
        · gi_wp2_with fail
          refine bodyPost_ret (results_none rfl _ _ _) rfl ?_
          exact ⟨⟨_, rfl⟩, .inr ⟨pre ++ [(x.1, x.2, st0.length + 1)], B', N', HPRE.out, hJx3⟩⟩
end Go.Proofs.YtfeijijeohfpgaaDoor
namespace Go.Proofs.YtfeijijeohfpgaaDoor
open Go Go.RowKit Go.Maps Go.WideMaps

def heldR (v : Value) : Option (DataW Value × List MemPlace) := some (.held v, [])
def MapV (P : Program) (k : TypeId) (w : World) (b n : Nat) (z : Value) (f : ByteArray → Value) : Prop :=
  ∃ D : DataW Value, w.ownsMap P k heldR b n D ∧ ∀ s : ByteArray, s.size ≤ maxLen → D.atKey (.string s.data.toList) (.held z) = .held (f s)
section
variable {P : Program} {k e : TypeId} {w : World} {b n : Nat} {z : Value} {f : ByteArray → Value}
theorem mapV_made (w : World) (P : Program) (k : TypeId) (z : Value) : MapV P k (w.alloc (.map #[] 0)) w.heap.size 0 z (fun _ => z) :=
  ⟨.map [], World.ownsMap_made _ _ _ _, fun _ _ => rfl⟩
theorem MapV.lt (h : MapV P k w b n z f) : b < w.heap.size := by
  obtain ⟨D, h1, _⟩ := h
  exact h1.lt
theorem MapV.of_block {w' : World} (h : MapV P k w b n z f) (hb : w'.heap[b]? = w.heap[b]?) : MapV P k w' b n z f := by
  obtain ⟨D, ⟨es, clock, hb0, F, hs, hD⟩, h2⟩ := h
  exact ⟨D, ⟨es, clock, hb.trans hb0, F, hs, hD⟩, h2⟩
theorem MapV.look {t : TypeId} (h : MapV P k w b n z f) (K : Keyed P k) (hk : P.underlying k = some .string) (ht : P.underlying t = some (.map k e)) (hz : (zeroValue e).run P w = .ok z w)
    {s : ByteArray} (hs : s.size ≤ maxLen) : (Instr.lookup t (.map (some b)) (.string s) false).run P w = .ok (f s) w := by
  obtain ⟨D, h1, h2⟩ := h
  obtain ⟨v, ps, hrun, hv⟩ := h1.lookup K ht hz (zd := .held z) (zp := []) rfl (keyOf_string_mk hk hs)
  rw [h2 s hs] at hv
  simp only [heldR, Option.some.injEq, Prod.mk.injEq, DataW.held.injEq] at hv
  rw [hrun, hv.1]
theorem MapV.store {t : TypeId} (h : MapV P k w b n z f) (K : Keyed P k) (hk : P.underlying k = some .string) (ht : P.underlying t = some (.map k e)) (hn : n < maxLen)
    {s : ByteArray} (hs : s.size ≤ maxLen) (v : Value) : ∃ w', (Instr.mapUpdate t (.map (some b)) (.string s) v).run P w = .ok () w' ∧ MapV P k w' b (n + 1) z (fun x => if x = s then v else f x) ∧ w.grownBy w' (some b) := by
  obtain ⟨D, h1, h2⟩ := h
  obtain ⟨w', hrun, hown, hg⟩ := h1.update K ht hn (keyOf_string_mk hk hs) (d := .held v) (ps := []) (val := v) rfl
  refine ⟨w', hrun, ⟨_, hown, fun x hx => ?_⟩, hg⟩
  have ik : WideAt.IsKeyLit (.string s.data.toList) := by simp [WideAt.IsKeyLit]
  by_cases hxs : x = s
  · subst hxs
    rw [atKey_put_same h1.isMap ik]
    simp
  · have hne : Lit.string x.data.toList ≠ Lit.string s.data.toList := by
      intro hc
      apply hxs
      obtain ⟨⟨x⟩⟩ := x
      obtain ⟨⟨s⟩⟩ := s
      rw [show x = s by simpa using hc]
    rw [atKey_put_other hne, h2 x hx]
    simp [hxs]
end
theorem wpList_look_v {P : Program} (w : World) {ops : Array Oper} {rest : List Oper} {o : Oper} {a : Act} {Q : Exit → Act → World → Prop} {k e : TypeId} {b n : Nat} {z : Value} {f : ByteArray → Value} (hg : o.guard = none) (m x : Operand) (t : TypeId) (hop : o.op = Op.lookup t m x false)
    (K : Keyed P k) (hk : P.underlying k = some .string) (ht : P.underlying t = some (.map k e)) (hz : (zeroValue e).run P w = .ok z w)
    (hm : a.eval m = .map (some b)) (hmap : MapV P k w b n z f) (s : ByteArray) (hx : a.eval x = .string s) (hs : s.size ≤ maxLen) (r : Value) (hr : f s = r) (hK : wpList P ops Q rest (a.put o.dst r) w) :
    wpList P ops Q (o :: rest) a w := by
  refine wpList_plain hg fun K' hK' => ?_
  have hrun := hmap.look K hk ht hz hs
  rw [hr] at hrun
  unfold Oper.wp
  simp [execOp, hop, hm, hx, hrun, Result.andThen]
  exact hK' _ _ hK
end Go.Proofs.YtfeijijeohfpgaaDoor
namespace Go.Proofs.YtfeijijeohfpgaaDoor
open Go Go.RowKit Go.Maps

theorem lawKeyN : Keyed Tryd.prog 9 := string_keyed Tryd.underlying9
theorem zeroInts (w : World) : (zeroValue 66).run Tryd.prog w = .ok (.slice none 0 0) w := by kernel_rfl
structure Turns (B : Nat → Prop) (w w' : World) : Prop where
  size : w.heap.size ≤ w'.heap.size
  kept : ∀ b, b < w.heap.size → ¬ B b → w'.heap[b]? = w.heap[b]?
  below : ∀ base, base ≤ w.heap.size → (∀ b, B b → base ≤ b) → Below base w w'
theorem Turns.refl (B : Nat → Prop) (w : World) : Turns B w w := ⟨Nat.le_refl _, fun _ _ _ => rfl, fun base _ _ => Below.refl base w⟩
theorem Turns.trans {B : Nat → Prop} {a b c : World} (h : Turns B a b) (k : Turns B b c) : Turns B a c :=
  ⟨Nat.le_trans h.size k.size, fun x hx hn => (k.kept x (Nat.lt_of_lt_of_le hx h.size) hn).trans (h.kept x hx hn), fun base hb hF => (h.below base hb hF).trans (k.below base (Nat.le_trans hb h.size) hF)⟩
theorem Turns.set {B : Nat → Prop} {a w : World} (h : Turns B a w) {b : Nat} (hb : B b) (o : Nat) (v : Value) : Turns B a (w.setCell ⟨b, o, none⟩ v) :=
  ⟨by have := h.size; simpa [World.setCell] using this, fun x hx hn => (Below.heap_setCell _ _ _ _ (fun e => hn (by rw [show x = b from e]; exact hb))).trans (h.kept x hx hn), fun base h1 h2 => (h.below base h1 h2).setCell (p := ⟨b, o, none⟩) (h2 b hb) v⟩
theorem Turns.grown {B : Nat → Prop} {a w w' : World} {r : Nat} (h : Turns B a w) (hg : w.grownBy w' (some r)) (hb : B r) : Turns B a w' :=
  ⟨Nat.le_trans h.size hg.size, fun x hx hn => (hg.block x (Nat.lt_of_lt_of_le hx h.size) (fun e => hn (by rw [Option.some.inj e]; exact hb))).trans (h.kept x hx hn), fun base h1 h2 => (h.below base h1 h2).grown hg (Nat.le_trans h1 h.size) (fun k hk => by cases hk; exact h2 _ hb)⟩
theorem Turns.drew {B : Nat → Prop} {a w : World} (h : Turns B a w) : Turns B a w.drew := ⟨h.size, h.kept, fun base h1 h2 => (h.below base h1 h2).drew⟩
theorem Turns.wide {B B' : Nat → Prop} {w w' : World} (h : Turns B w w') (hB : ∀ b, B b → B' b) : Turns B' w w' := ⟨h.size, fun b hl hb => h.kept b hl (fun e => hb (hB b e)), fun base hb hF => h.below base hb (fun b hb' => hF b (hB b hb'))⟩
theorem Turns.alloc {B : Nat → Prop} {w : World} (o : Obj) : Turns B w (w.alloc o) := ⟨by simp, fun b hl _ => Below.heap_alloc _ _ _ hl, fun base hb _ => (Below.refl base w).alloc hb o⟩
theorem Turns.app {B : Nat → Prop} {w w' : World} {e : TypeId} {size n g cap : Nat} {v : Value} {xs cs : List Value} (hA : Appd w w' 0 e size v n xs cs g cap) (hB : ∀ b, v.ownBlock = some b → B b) : Turns B w w' :=
  ⟨hA.size, fun b hl hb => (hA.kept b hl (fun e => hb (hB b e))).1, fun base hb hF => ⟨hA.below.os, hA.below.tape, hA.below.output, hA.size, fun b hlt => (hA.kept b (Nat.lt_of_lt_of_le hlt hb) (fun e => absurd (hF b (hB b e)) (Nat.not_le.2 hlt))).1⟩⟩
theorem infoInt : (Tryd.prog.info? 3).map (fun i => (i.zero, i.size, i.bytes)) = some (some (.int .i64 0), 1, 8) := by kernel_rfl
end Go.Proofs.YtfeijijeohfpgaaDoor
namespace Go.Proofs.YtfeijijeohfpgaaDoor
open Go Go.RowKit Go.Maps
def cntN (s : ByteArray) (xs : List ByteArray) : Nat := (xs.filter fun x => decide (x = s)).length
theorem cntN_app (s : ByteArray) (a b : List ByteArray) : cntN s (a ++ b) = cntN s a + cntN s b := by simp [cntN]
theorem cntN_one (s x : ByteArray) : cntN s [x] = if x = s then 1 else 0 := by
  unfold cntN
  by_cases h : x = s <;> simp [h]
theorem cntN_has (s : ByteArray) (xs : List ByteArray) : cntN s xs = 0 ↔ hasN s xs = false := by
  induction xs with
  | nil => simp [cntN, hasN]
  | cons x xs ih =>
    rw [show x :: xs = [x] ++ xs from rfl, cntN_app, cntN_one, hasN_app]
    by_cases h : x = s
    · subst h
      simp [hasN]
    · have h2 : ¬ x = s := h
      rw [if_neg h, Nat.zero_add, ih]
      simp [hasN, h2]
structure PlcIs (w : World) (v : Value) (n : Nat) : Prop where
  own : ∃ ys, w.ownsRow 0 3 1 v n ys ∧ ∀ y ∈ ys, ∃ p : Int, 1 ≤ p ∧ p ≤ 9223372036854775807 ∧ y = .int .i64 p
theorem PlcIs.of_block {w w' : World} {v : Value} {n : Nat} (h : PlcIs w v n) (hb : ∀ g, v.ownBlock = some g → w'.heap[g]? = w.heap[g]?) : PlcIs w' v n := by
  obtain ⟨ys, ⟨h1, h2⟩, h3⟩ := h.own
  refine ⟨ys, ⟨h1, ?_⟩, h3⟩
  rcases h2 with h2 | ⟨g, cap, cur, rfl, hg, hblk, r⟩
  · exact Or.inl h2
  · exact Or.inr ⟨g, cap, cur, rfl, hg, (hb g rfl).trans hblk, r⟩
theorem PlcIs.lt {w : World} {v : Value} {n : Nat} (h : PlcIs w v n) {g : Nat} (hg : v.ownBlock = some g) : ∃ cs, w.heap[g]? = some (.cells cs 3 (0, 0)) := by
  obtain ⟨ys, ⟨h1, h2⟩, h3⟩ := h.own
  rcases h2 with ⟨rfl, _⟩ | ⟨g', cap, cur, rfl, _, hblk, r⟩
  · cases hg
  · simp [Value.ownBlock] at hg
    exact ⟨cur, hg ▸ hblk⟩
structure ScopeIs (w : World) (bs : Nat) (st : List (List ByteArray)) (fl : List ByteArray) (B N : Nat → Prop) (c : Nat) (va : Value) (bm n : Nat) (f : ByteArray → Value) (xs : List Value) : Prop where
  blk : w.heap[bs]? = some (.cells #[va, .map (some bm)] 105 (0, 0))
  own : w.ownsRow 0 62 1 va st.length xs
  nms : ∀ (i : Nat) (nm : List ByteArray) (v : Value), st[i]? = some nm → xs[i]? = some v → NamesAt w N nm v
  map : MapV Tryd.prog 9 w bm n (.slice none 0 0) f
  cnt : n + fl.length ≤ c
  rows : ∀ s, PlcIs w (f s) (cntN s fl)
  apart : ∀ (s s' : ByteArray) (g : Nat), s ≠ s' → (f s).ownBlock = some g → (f s').ownBlock = some g → False
  inB : B bs ∧ B bm ∧ (∀ g : Nat, va.ownBlock = some g → B g) ∧ ∀ (s : ByteArray) (g : Nat), (f s).ownBlock = some g → B g
theorem ScopeIs.keep {w w' : World} {bs : Nat} {st : List (List ByteArray)} {fl : List ByteArray} {B N : Nat → Prop} {c : Nat} {va : Value} {bm n : Nat} {f : ByteArray → Value} {xs : List Value} (h : ScopeIs w bs st fl B N c va bm n f xs)
    (hs : w.heap.size ≤ w'.heap.size) (hb : ∀ b, B b ∨ N b → b < w.heap.size → w'.heap[b]? = w.heap[b]?) : ScopeIs w' bs st fl B N c va bm n f xs := by
  have hN : Stays N w w' := ⟨hs, fun b hb' hl => hb b (Or.inr hb') hl⟩
  refine ⟨(hb bs (Or.inl h.inB.1) (Array.getElem?_eq_some_iff.1 h.blk).1).trans h.blk, ?_, fun i nm v h1 h2 => (h.nms i nm v h1 h2).stays hN, h.map.of_block (hb bm (Or.inl h.inB.2.1) h.map.lt), h.cnt, fun s => (h.rows s).of_block (fun g hg => ?_), h.apart, h.inB⟩
  · obtain ⟨h1, h2⟩ := h.own
    refine ⟨h1, ?_⟩
    rcases h2 with h2 | ⟨g, cap, cur, hv, hg, hblk, r⟩
    · exact Or.inl h2
    · exact Or.inr ⟨g, cap, cur, hv, hg, (hb g (Or.inl (h.inB.2.2.1 g (by rw [hv]; rfl))) (Array.getElem?_eq_some_iff.1 hblk).1).trans hblk, r⟩
  · obtain ⟨cs, hc⟩ := (h.rows s).lt hg
    exact hb g (Or.inl (h.inB.2.2.2 s g hg)) (Array.getElem?_eq_some_iff.1 hc).1

set_option maxRecDepth 100000 in
set_option maxHeartbeats 1000000 in
theorem placeOf_any {w : World} {bs : Nat} {st : List (List ByteArray)} {fl : List ByteArray} {B N : Nat → Prop} {c : Nat} {va : Value} {bm n : Nat} {f : ByteArray → Value} {xs : List Value} (h : ScopeIs w bs st fl B N c va bm n f xs) (s : ByteArray) (hs : s.size ≤ maxLen) :
    Calls Tryd.prog 100 #[.pointer (some ⟨bs, 0, none⟩), .string s] w fun e w' => (∃ p : Int, e = .returned (.int .i64 p) ∧ (p = 0 ↔ hasN s fl = false)) ∧ w' = w := by
  have b0 := cell_of_blk h.blk 0
  have b1 := cell_of_blk h.blk 1
  simp only [List.getElem?_toArray, List.getElem?_cons_zero, List.getElem?_cons_succ] at b0 b1
  have HM := Lib.hid h.map
  have HC := Lib.hid (cntN_has s fl)
  obtain ⟨ys, hown, hys⟩ := (h.rows s).own
  generalize hcn : cntN s fl = m at hown HC
  obtain ⟨v, hv⟩ : ∃ v, f s = v := ⟨_, rfl⟩
  rw [hv] at hown
  obtain ⟨q, cp, hvv⟩ : ∃ q cp, v = .slice q m cp := by
    rcases hown.2 with ⟨h1, h2⟩ | ⟨g, cap, cur, h1, _⟩
    · exact ⟨none, 0, by rw [h1, h2]⟩
    · exact ⟨_, _, h1⟩
  subst hvv
  have HV := Lib.hid hv
  have HO := Lib.hid hown
  have HY := Lib.hid hys
  clear h hv hown hys hcn
  go_enter Tryd.func100, Tryd.ntmps100
  by_cases h0 : m = 0
  · have e0 : ((m : Int) == 0) = true := by simp [h0]
    have HZ := Lib.hid (HC.out.1 h0)
    clear h0
    go_wp2_with (at_lookup; refine wpList_look_v w rfl _ _ _ rfl lawKeyN Tryd.underlying9 Tryd.underlying103 (zeroInts w) rfl HM.out s rfl hs _ HV.out ?_)
    go_ret
    exact ⟨⟨0, rfl, by simp [HZ.out]⟩, rfl⟩
  · have e0 : ((m : Int) == 0) = false := by simp [h0]
    have HZ := Lib.hid (show ¬ hasN s fl = false from fun h => h0 (HC.out.2 h))
    have hlast : m - 1 < ys.length := by have := HO.out.1; omega
    have hy := HY.out _ (List.getElem_mem hlast)
    obtain ⟨p, hp1, hp2, hp3⟩ := hy
    rcases HO.out.2 with ⟨_, h2⟩ | ⟨g, cap, cur, hv, _⟩
    · exact absurd h2 h0
    simp only [Value.slice.injEq, true_and] at hv
    obtain ⟨rfl, rfl⟩ := hv
    have c0 := (HO.out.cellAt (m - 1) (by omega)).trans (List.getElem?_eq_getElem hlast)
    rw [hp3] at c0
    have e1 : (m : Int) - 1 = ((m - 1 : Nat) : Int) := by omega
    have i0 : (0 : Int) ≤ (m : Int) - 1 := by omega
    have i1 : (m : Int) - 1 < (m : Int) := by omega
    have hm63 : (m : Int) ≤ 9223372036854775807 := by
      obtain ⟨_, h2, _⟩ := row_cap HO.out
      have h3 := (row_cap HO.out).1
      unfold maxLen at h2
      omega
    clear h0 hp3
    go_wp2_with (at_lookup; refine wpList_look_v w rfl _ _ _ rfl lawKeyN Tryd.underlying9 Tryd.underlying103 (zeroInts w) rfl HM.out s rfl hs _ HV.out ?_)
    go_ret
    exact ⟨⟨p, rfl, by simp [HZ.out]; omega⟩, rfl⟩
theorem ScopeIs.drop {w w' : World} {bs : Nat} {st : List (List ByteArray)} {fl fl' : List ByteArray} {B N : Nat → Prop} {c : Nat} {va : Value} {bm n : Nat} {f : ByteArray → Value} {xs : List Value} (h : ScopeIs w bs st fl B N c va bm n f xs) {x : ByteArray} {q : Option Addr} {m cp : Nat}
    (hv : f x = .slice q (m + 1) cp) (hx : cntN x fl = m + 1) (hx' : cntN x fl' = m) (ho : ∀ y, ¬ x = y → cntN y fl' = cntN y fl) (hl : fl'.length + 1 = fl.length) (hm : MapV Tryd.prog 9 w' bm (n + 1) (.slice none 0 0) (fun y => if y = x then .slice q m cp else f y)) (hg : w.grownBy w' (some bm)) (hN : ∀ b, N b → b ≠ bm) :
    ScopeIs w' bs st fl' B N c va bm (n + 1) (fun y => if y = x then .slice q m cp else f y) xs := by
  have hbm : ∀ (b : Nat) (cs : Array Value) (T : TypeId) (fr : Nat × Nat), w.heap[b]? = some (Obj.cells cs T fr) → w'.heap[b]? = w.heap[b]? := fun b cs T fr hb => hg.block b (Array.getElem?_eq_some_iff.1 hb).1 (fun e => by
    obtain ⟨D, ⟨es, clock, hb0, _⟩, _⟩ := h.map
    rw [Option.some.inj e, hb0] at hb
    cases hb)
  have hNs : Stays N w w' := ⟨hg.size, fun b hb hl' => hg.block b hl' (fun e => hN b hb (Option.some.inj e))⟩
  refine ⟨(hbm _ _ _ _ h.blk).trans h.blk, ?_, fun i nm v h1 h2 => (h.nms i nm v h1 h2).stays hNs, hm, ?_, fun s => ?_, fun s s' g hne h1 h2 => ?_, h.inB.1, h.inB.2.1, h.inB.2.2.1, fun s g h1 => ?_⟩
  · obtain ⟨h1, h2⟩ := h.own
    refine ⟨h1, ?_⟩
    rcases h2 with h2 | ⟨g, cap, cur, hv, hg', hblk, r⟩
    · exact Or.inl h2
    · exact Or.inr ⟨g, cap, cur, hv, hg', (hbm _ _ _ _ hblk).trans hblk, r⟩
  · have := h.cnt
    omega
  · have hk : PlcIs w' (f s) (cntN s fl) := (h.rows s).of_block (fun g hg' => by
      obtain ⟨cs, hc⟩ := (h.rows s).lt hg'
      exact hbm _ _ _ _ hc)
    by_cases hs : s = x
    · subst hs
      rw [if_pos rfl, hx']
      rw [hv, hx] at hk
      obtain ⟨ys, h1, h2⟩ := hk.own
      rcases h1.2 with ⟨_, h0⟩ | ⟨g, cap, cur, hvv, _⟩
      · omega
      simp only [Value.slice.injEq, true_and] at hvv
      obtain ⟨rfl, rfl⟩ := hvv
      have h3 := row_take h1 (Nat.le_succ m)
      exact ⟨_, h3, fun y hy => h2 y (List.mem_of_mem_take hy)⟩
    · rw [if_neg hs, ho s (fun e => hs e.symm)]
      exact hk
  · have e : ∀ y, (if y = x then Value.slice q m cp else f y).ownBlock = (f y).ownBlock := fun y => by
      by_cases hy : y = x
      · rw [if_pos hy, hy, hv]; cases q <;> rfl
      · rw [if_neg hy]
    rw [e] at h1 h2
    exact h.apart s s' g hne h1 h2
  · have e : ∀ y, (if y = x then Value.slice q m cp else f y).ownBlock = (f y).ownBlock := fun y => by
      by_cases hy : y = x
      · rw [if_pos hy, hy, hv]; cases q <;> rfl
      · rw [if_neg hy]
    rw [e] at h1
    exact h.inB.2.2.2 s g h1
theorem ScopeIs.pop {w : World} {bs : Nat} {st : List (List ByteArray)} {nm fl : List ByteArray} {B N : Nat → Prop} {c : Nat} {q : Option Addr} {cp bm n : Nat} {f : ByteArray → Value} {xs : List Value} (h : ScopeIs w bs (st ++ [nm]) fl B N c (.slice q (st.length + 1) cp) bm n f xs) (hN : ∀ b, N b → b ≠ bs) :
    ScopeIs (w.setCell ⟨bs, 0, none⟩ (.slice q st.length cp)) bs st fl B N c (.slice q st.length cp) bm n f (xs.take st.length) := by
  have hlen : (st ++ [nm]).length = st.length + 1 := by simp
  have hown := h.own
  rw [hlen] at hown
  have ho : ∀ b : Nat, b ≠ bs → (w.setCell ⟨bs, 0, none⟩ (.slice q st.length cp)).heap[b]? = w.heap[b]? := fun b hb => Below.heap_setCell _ _ _ _ hb
  have hkind : ∀ (b : Nat) (cs : Array Value) (T : TypeId), w.heap[b]? = some (Obj.cells cs T (0, 0)) → T ≠ 105 → b ≠ bs := fun b cs T hb hT e => by
    rw [e, h.blk] at hb
    simp only [Option.some.injEq, Obj.cells.injEq] at hb
    exact hT hb.2.1.symm
  refine ⟨?_, ?_, fun i nm' v h1 h2 => ?_, h.map.of_block (ho _ (fun e => ?_)), h.cnt, fun s => (h.rows s).of_block (fun g hg => ?_), h.apart, h.inB.1, h.inB.2.1, fun g hg => h.inB.2.2.1 g (by cases q with | none => cases hg | some a => exact hg), h.inB.2.2.2⟩
  · rw [Go.Joins.block_setCell h.blk _]
    rfl
  · rcases hown.2 with ⟨_, h0⟩ | ⟨g, cap, cur, hvv, hg, hblk, r⟩
    · omega
    simp only [Value.slice.injEq, true_and] at hvv
    obtain ⟨rfl, rfl⟩ := hvv
    have h3 := row_take hown (Nat.le_succ st.length)
    rw [Nat.mul_one] at h3
    exact row_of_block h3 (ho g (hkind g _ _ hblk (by decide)))
  · have hi := (List.getElem?_eq_some_iff.1 h1).1
    rw [List.getElem?_take, if_pos hi] at h2
    exact (h.nms i nm' v (by rw [List.getElem?_append_left hi]; exact h1) h2).stays ⟨by simp [World.setCell], fun b hb _ => ho b (hN b hb)⟩
  · obtain ⟨D, ⟨es, clock, hb0, _⟩, _⟩ := h.map
    rw [e, h.blk] at hb0
    cases hb0
  · obtain ⟨cs, hc⟩ := (h.rows s).lt hg
    exact ho g (hkind g _ _ hc (by decide))
end Go.Proofs.YtfeijijeohfpgaaDoor
namespace Go.Proofs.YtfeijijeohfpgaaDoor
open Go Go.RowKit Go.Maps

theorem cntN_drop (s : ByteArray) (a : List ByteArray) {nm : List ByteArray} {j : Nat} (hj : j < nm.length) : cntN s (a ++ nm.drop j) = cntN s (a ++ nm.drop (j + 1)) + (if nm[j] = s then 1 else 0) := by
  rw [List.drop_eq_getElem_cons hj, cntN_app, cntN_app, show nm[j] :: nm.drop (j + 1) = [nm[j]] ++ nm.drop (j + 1) from rfl, cntN_app, cntN_one]
  omega
theorem PlcIs.slice {w : World} {v : Value} {n : Nat} (h : PlcIs w v n) : ∃ q cp, v = .slice q n cp ∧ n ≤ maxLen := by
  obtain ⟨ys, h1, _⟩ := h.own
  rcases h1.2 with ⟨e1, e2⟩ | ⟨g, cap, cur, e1, _⟩
  · exact ⟨none, 0, by rw [e1, e2], by rw [e2]; exact Nat.zero_le _⟩
  · subst e1
    have := row_cap h1
    exact ⟨_, _, rfl, Nat.le_trans this.1 this.2.1⟩
def Left (w : World) (bs : Nat) (st : List (List ByteArray)) (B N : Nat → Prop) (c bm : Nat) (w' : World) : Prop :=
  ∃ va n f xs, ScopeIs w' bs st st.flatten B N c va bm n f xs ∧ Turns B w w'
set_option maxRecDepth 100000 in
set_option maxHeartbeats 4000000 in
theorem leave_any {w : World} {bs : Nat} {st : List (List ByteArray)} {nm : List ByteArray} {B N : Nat → Prop} {c : Nat} {va : Value} {bm n : Nat} {f : ByteArray → Value} {xs : List Value}
    (h : ScopeIs w bs (st ++ [nm]) (st ++ [nm]).flatten B N c va bm n f xs) (hz : ∀ x ∈ nm, x.size ≤ maxLen) (hN : ∀ b, N b → ¬ B b) (hc : c ≤ 1099511627776) :
    Calls Tryd.prog 113 #[.pointer (some ⟨bs, 0, none⟩)] w fun e w' => (∃ v, e = .returned v) ∧ Left w bs st B N c bm w' := by
  have hlen : (st ++ [nm]).length = st.length + 1 := by simp
  have hfl : (st ++ [nm]).flatten = st.flatten ++ nm.drop 0 := by simp
  rw [hfl] at h
  have hown := h.own
  rw [hlen] at hown
  obtain ⟨q, cp, hva, hxl⟩ : ∃ g cp, va = .slice (some ⟨g, 0, none⟩) (st.length + 1) cp ∧ xs.length = st.length + 1 := by
    rcases hown.2 with ⟨_, h0⟩ | ⟨g, cap, cur, hv, _⟩
    · omega
    · exact ⟨g, cap, hv, by have := hown.1; omega⟩
  subst hva
  obtain ⟨hcap1, hcap2, hg1, hg2⟩ := row_cap hown
  have hxv := List.getElem?_eq_getElem (show st.length < xs.length by omega)
  have hna := h.nms st.length nm xs[st.length] (by simp) hxv
  obtain ⟨v, hvv⟩ : ∃ v, xs[st.length] = v := ⟨_, rfl⟩
  rw [hvv] at hna hxv
  have a0 := (hown.cellAt st.length (by omega)).trans hxv
  have b0 := cell_of_blk h.blk 0
  have b1 := cell_of_blk h.blk 1
  simp only [List.getElem?_toArray, List.getElem?_cons_zero, List.getElem?_cons_succ] at b0 b1
  obtain ⟨pn, cn, rfl, hnl, hcell⟩ : ∃ pn cn, v = .slice pn nm.length cn ∧ nm.length ≤ 9223372036854775807 ∧ ∀ (j : Nat) (hj : j < nm.length), ∃ g, pn = some ⟨g, 0, none⟩ ∧ N g ∧ g < w.heap.size ∧ w.cell? ⟨g, j, none⟩ = some (.string nm[j]) := by
    have hcn := h.cnt
    simp only [List.length_append, List.length_drop] at hcn
    rcases hna with ⟨rfl, rfl⟩ | ⟨_, g, cap, rfl, h1, h2, h3⟩
    · exact ⟨none, 0, rfl, by simp, fun j hj => by simp at hj⟩
    · exact ⟨_, cap, rfl, by omega, fun j hj => ⟨g, rfl, h1, h2, h3 j _ (List.getElem?_eq_getElem hj)⟩⟩
  have HH := Lib.hid h
  have HC := Lib.hid hcell
  have HZ := Lib.hid hz
  have HN := Lib.hid hN
  have HOW := Lib.hid hown
  unfold maxLen at hcap2
  have e1 : ((st.length + 1 : Nat) : Int) - 1 = (st.length : Int) := by omega
  have i0 : (0 : Int) ≤ (st.length : Int) := Int.natCast_nonneg _
  have i1 : (st.length : Int) < ((st.length + 1 : Nat) : Int) := by omega
  have i2 : (st.length : Int) < (st.length : Int) + 1 := by omega
  clear h hna hcell hz hN hown hxv hfl
  go_enter Tryd.func113, Tryd.ntmps113
  go_wp2_with fail
  go_loopw [19] (fun i wr => ∃ (j n' : Nat) (f' : ByteArray → Value), j ≤ nm.length ∧ i = .int .i64 j ∧ ScopeIs wr bs (st ++ [nm]) (st.flatten ++ nm.drop j) B N c (.slice (some ⟨q, 0, none⟩) (st.length + 1) cp) bm n' f' xs ∧ Turns B w wr) (fun i _ => nm.length - (intOf i).toNat)
  case atStart => exact ⟨0, n, f, Nat.zero_le _, rfl, HH.out, Turns.refl _ _⟩
  case round =>
    obtain ⟨j, n', f', hj, rfl, hsc, htu⟩ := hrel
    have HS := Lib.hid hsc
    have HT := Lib.hid htu
    have c0 := cell_of_blk hsc.blk 0
    have c1 := cell_of_blk hsc.blk 1
    have cz := unfrozen_of_blk hsc.blk
    simp only [List.getElem?_toArray, List.getElem?_cons_zero, List.getElem?_cons_succ] at c0 c1
    clear hsc htu
    by_cases hlj : j < nm.length
    · obtain ⟨g, rfl, hNg, hgl, hcg⟩ := HC.out j hlj
      have hcr := (World.cell?_of_block (a := ⟨g, j, none⟩) (HT.out.kept g hgl (HN.out g hNg))).trans hcg
      have hsz := HZ.out _ (List.getElem_mem hlj)
      have hcx := cntN_drop nm[j] st.flatten hlj
      rw [if_pos rfl] at hcx
      obtain ⟨qx, cx, hfx, hmx⟩ := (HS.out.rows nm[j]).slice
      rw [hcx] at hfx hmx
      have HM := HS.out.map.of_block (w' := wr.drew) rfl
      have hlk := HM.look lawKeyN Tryd.underlying9 Tryd.underlying103 (zeroInts wr.drew) hsz
      rw [hfx] at hlk
      obtain ⟨w2, hup, hmv, hg2'⟩ := HM.store (t := 103) lawKeyN Tryd.underlying9 Tryd.underlying103 (by have := HS.out.cnt; unfold maxLen; omega) hsz (.slice qx (cntN nm[j] (st.flatten ++ nm.drop (j + 1))) cx)
      have HFX := Lib.hid hfx
      have HCX := Lib.hid hcx
      have HMV := Lib.hid hmv
      have HG2 := Lib.hid hg2'
      have HUP := Lib.hid hup
      have HLK := Lib.hid hlk
      obtain ⟨m, hm⟩ : ∃ m, cntN nm[j] (st.flatten ++ nm.drop (j + 1)) = m := ⟨_, rfl⟩
      have HCN := Lib.hid hm
      have HOT := Lib.hid (show ∀ y, ¬ nm[j] = y → cntN y (st.flatten ++ nm.drop (j + 1)) = cntN y (st.flatten ++ nm.drop j) from fun y hy => by have e9 := cntN_drop y st.flatten hlj; rw [if_neg hy] at e9; omega)
      have HLE := Lib.hid (show (st.flatten ++ nm.drop (j + 1)).length + 1 = (st.flatten ++ nm.drop j).length by simp only [List.length_append, List.length_drop]; omega)
      rw [hm] at hlk hup hmx hfx hmv hcx
      have HFX' := Lib.hid hfx
      have HMV' := Lib.hid hmv
      have HCX' := Lib.hid hcx
      have ii0 : (0 : Int) ≤ (j : Int) := Int.natCast_nonneg _
      have ii1 : (j : Int) < (nm.length : Int) := by omega
      have im0 : (0 : Int) ≤ ((m + 1 : Nat) : Int) - 1 := by omega
      have im1 : ((m + 1 : Nat) : Int) - 1 = (m : Int) := by omega
      have im2 : (m : Int) + 1 - 1 = (m : Int) := by omega
      have hcx2 : (m : Int) ≤ (cx : Int) := by
        obtain ⟨ys, h1, _⟩ := (HS.out.rows nm[j]).own
        rw [HFX'.out, HCX'.out] at h1
        rcases h1.2 with ⟨_, h0⟩ | ⟨g5, cap, cur, hv5, _⟩
        · omega
        · simp only [Value.slice.injEq, true_and] at hv5
          obtain ⟨rfl, rfl⟩ := hv5
          have := (row_cap h1).1
          omega
      unfold maxLen at hmx
      have a3 := wrap_in m (by omega)
      clear hfx hcx hmv hg2' HUP HLK hsz HM hm HFX HCX HMV
      go_wp2_with fail
      go_region_law (first
        | (refine step_look rfl _ _ _ rfl rfl rfl hlk ?_)
        | (refine step_upd rfl _ _ _ _ rfl rfl rfl rfl hup ?_))
      all_goals
        go_wp2_with fail
        first
          | (refine ⟨⟨j + 1, n' + 1, fun y => if y = nm[j] then .slice qx m cx else f' y, by omega, by go_num, ?_, ?_⟩, by simp [intOf]; omega⟩
             · exact (HS.out.keep (w' := wr.drew) (Nat.le_refl _) (fun _ _ _ => rfl)).drop HFX'.out HCX'.out (HCN.out) HOT.out HLE.out HMV'.out HG2.out (fun b hb e => HN.out b hb (e ▸ HS.out.inB.2.1))
             · exact (HT.out.drew).grown HG2.out HS.out.inB.2.1)
          | fail
    · have e5 : j = nm.length := by omega
      subst e5
      have hlast : ¬ (nm.length : Int) < (nm.length : Int) := by omega
      go_wp2_with fail
      have hpop := HS.out.pop (fun b hb e => HN.out b hb (e ▸ HS.out.inB.1))
      rw [List.drop_length, List.append_nil] at hpop
      go_end0
      exact ⟨⟨_, rfl⟩, _, _, _, _, hpop, HT.out.set HS.out.inB.1 0 _⟩
end Go.Proofs.YtfeijijeohfpgaaDoor
namespace Go.Proofs.YtfeijijeohfpgaaDoor
open Go Go.RowKit Go.Maps

theorem ScopeIs.wide {w : World} {bs : Nat} {st : List (List ByteArray)} {fl : List ByteArray} {B N B' N' : Nat → Prop} {c c' : Nat} {va : Value} {bm n : Nat} {f : ByteArray → Value} {xs : List Value} (h : ScopeIs w bs st fl B N c va bm n f xs)
    (hB : ∀ b, B b → B' b) (hN : ∀ z, N z → N' z) (hc : c ≤ c') : ScopeIs w bs st fl B' N' c' va bm n f xs :=
  ⟨h.blk, h.own, fun i nm v h1 h2 => (h.nms i nm v h1 h2).mono (fun z hz _ => hN z hz), h.map, Nat.le_trans h.cnt hc, h.rows, h.apart, hB _ h.inB.1, hB _ h.inB.2.1, fun g hg => hB _ (h.inB.2.2.1 g hg), fun s g hg => hB _ (h.inB.2.2.2 s g hg)⟩
theorem ScopeIs.push {w w1 : World} {bs : Nat} {st : List (List ByteArray)} {nm fl : List ByteArray} {B N : Nat → Prop} {c : Nat} {va pv : Value} {bm n g cap : Nat} {f : ByteArray → Value} {xs : List Value} (h : ScopeIs w bs st fl B N c va bm n f xs)
    (hnm : NamesAt w N nm pv) (hA : Appd w w1 0 62 1 va st.length xs [pv] g cap) (hB : ∀ b, w.heap.size ≤ b → B b) (hN : ∀ b, N b → ¬ B b) :
    ScopeIs (w1.setCell ⟨bs, 0, none⟩ (.slice (some ⟨g, 0, none⟩) (st.length + 1) cap)) bs (st ++ [nm]) fl B N c (.slice (some ⟨g, 0, none⟩) (st.length + 1) cap) bm n f (xs ++ [pv]) := by
  have hlen : (st ++ [nm]).length = st.length + 1 := by simp
  have hkind : ∀ (b : Nat) (cs : Array Value) (T : TypeId) (o : Obj), w.heap[b]? = some o → (∀ cs, o ≠ .cells cs 62 (0, 0)) → va.ownBlock ≠ some b := fun b cs T o hb hT e => by
    rcases h.own.2 with ⟨rfl, _⟩ | ⟨g', cap', cur, rfl, _, hblk, _⟩
    · cases e
    · simp only [Value.ownBlock, Option.some.injEq] at e
      subst e
      rw [hblk] at hb
      exact hT cur (Option.some.inj hb).symm
  have ho : ∀ b : Nat, b ≠ bs → (w1.setCell ⟨bs, 0, none⟩ (.slice (some ⟨g, 0, none⟩) (st.length + 1) cap)).heap[b]? = w1.heap[b]? := fun b hb => Below.heap_setCell _ _ _ _ hb
  have hbs : va.ownBlock ≠ some bs := hkind bs #[] 0 _ h.blk (fun cs e => by simp at e)
  have hbs1 := hA.kept bs (Array.getElem?_eq_some_iff.1 h.blk).1 hbs
  have keepN : Stays N w (w1.setCell ⟨bs, 0, none⟩ (.slice (some ⟨g, 0, none⟩) (st.length + 1) cap)) := ⟨by have := hA.size; simpa [World.setCell] using this, fun b hb hl => by
    have hnb := hN b hb
    rw [ho b (fun e => hnb (e ▸ h.inB.1)), (hA.kept b hl (fun e => hnb (h.inB.2.2.1 b e))).1]⟩
  have hgB : B g := by
    rcases Nat.lt_or_ge g w.heap.size with hl | hl
    · by_cases hv : va.ownBlock = some g
      · exact h.inB.2.2.1 g hv
      · exact absurd rfl (hA.kept g hl hv).2
    · exact hB g hl
  refine ⟨?_, ?_, fun i nm' v h1 h2 => ?_, ?_, h.cnt, fun s => (h.rows s).of_block (fun g' hg' => ?_), h.apart, h.inB.1, h.inB.2.1, fun g' hg' => ?_, h.inB.2.2.2⟩
  · rw [Go.Joins.block_setCell (hbs1.1.trans h.blk) _]
    rfl
  · rw [hlen]
    exact row_of_block hA.own (ho g hbs1.2)
  · by_cases hi : i < st.length
    · rw [List.getElem?_append_left hi] at h1
      rw [List.getElem?_append_left (by have := h.own.1; omega)] at h2
      exact (h.nms i nm' v h1 h2).stays keepN
    · have hi2 : i = st.length := by
        have := (List.getElem?_eq_some_iff.1 h1).1
        omega
      subst hi2
      have hxl : xs.length = st.length := by have := h.own.1; omega
      rw [List.getElem?_concat_length] at h1
      rw [← hxl, List.getElem?_concat_length] at h2
      cases h1; cases h2
      exact hnm.stays keepN
  · refine h.map.of_block ?_
    obtain ⟨D, ⟨es, clock, hb0, _⟩, _⟩ := h.map
    have hne : va.ownBlock ≠ some bm := hkind bm #[] 0 _ hb0 (fun cs e => by cases e)
    rw [ho bm (fun e => by rw [e, h.blk] at hb0; cases hb0), (hA.kept bm (Array.getElem?_eq_some_iff.1 hb0).1 hne).1]
  · obtain ⟨cs, hc⟩ := (h.rows s).lt hg'
    have hne : va.ownBlock ≠ some g' := hkind g' #[] 0 _ hc (fun cs e => by simp at e)
    rw [ho g' (fun e => by rw [e, h.blk] at hc; simp at hc), (hA.kept g' (Array.getElem?_eq_some_iff.1 hc).1 hne).1]
  · simp only [Value.ownBlock, Option.some.injEq] at hg'
    exact hg' ▸ hgB
theorem ScopeIs.add {w w1 w2 : World} {bs : Nat} {st : List (List ByteArray)} {fl : List ByteArray} {B N : Nat → Prop} {c : Nat} {va : Value} {bm n g cap m : Nat} {f : ByteArray → Value} {xs ys : List Value} {x : ByteArray} {p : Int} (h : ScopeIs w bs st fl B N c va bm n f xs)
    (hx : cntN x fl = m) (hys : ∀ y ∈ ys, ∃ p : Int, 1 ≤ p ∧ p ≤ 9223372036854775807 ∧ y = .int .i64 p) (hp : 1 ≤ p ∧ p ≤ 9223372036854775807) (hA : Appd w w1 0 3 1 (f x) m ys [.int .i64 p] g cap)
    (hm : MapV Tryd.prog 9 w2 bm (n + 1) (.slice none 0 0) (fun y => if y = x then .slice (some ⟨g, 0, none⟩) (m + 1) cap else f y)) (hg : w1.grownBy w2 (some bm)) (hB : ∀ b, w.heap.size ≤ b → B b) (hN : ∀ b, N b → ¬ B b) :
    ScopeIs w2 bs st (fl ++ [x]) B N (c + 2) va bm (n + 1) (fun y => if y = x then .slice (some ⟨g, 0, none⟩) (m + 1) cap else f y) xs := by
  have hgB : B g := by
    rcases Nat.lt_or_ge g w.heap.size with hl | hl
    · by_cases hv : (f x).ownBlock = some g
      · exact h.inB.2.2.2 x g hv
      · exact absurd rfl (hA.kept g hl hv).2
    · exact hB g hl
  have hbm0 : ∃ es k, w.heap[bm]? = some (.map es k) := by
    obtain ⟨D, ⟨es, clock, hb0, _⟩, _⟩ := h.map
    exact ⟨_, _, hb0⟩
  obtain ⟨es, clk, hbm0⟩ := hbm0
  have hk : ∀ (b : Nat) (o : Obj), w.heap[b]? = some o → (f x).ownBlock ≠ some b → b ≠ bm → w2.heap[b]? = w.heap[b]? ∧ g ≠ b := fun b o hb hne hbm => by
    have hl := (Array.getElem?_eq_some_iff.1 hb).1
    have h1 := hA.kept b hl hne
    exact ⟨(hg.block b (Nat.lt_of_lt_of_le hl hA.size) (fun e => hbm (Option.some.inj e))).trans h1.1, h1.2⟩
  have hfx : ∀ (b : Nat) (o : Obj), w.heap[b]? = some o → (∀ cs, o ≠ .cells cs 3 (0, 0)) → (f x).ownBlock ≠ some b := fun b o hb hT e => by
    obtain ⟨cs, hc⟩ := (h.rows x).lt e
    rw [hb] at hc
    exact hT cs (Option.some.inj hc)
  have hnm : ∀ (b : Nat) (cs : Array Value) (T : TypeId) (fr : Nat × Nat), w.heap[b]? = some (Obj.cells cs T fr) → b ≠ bm := fun b cs T fr hb e => by rw [e, hbm0] at hb; cases hb
  have keepN : Stays N w w2 := ⟨Nat.le_trans hA.size hg.size, fun b hb hl => by
    have hnb := hN b hb
    exact (hk b _ (Array.getElem?_eq_getElem hl) (fun e => hnb (h.inB.2.2.2 x b e)) (fun e => hnb (e ▸ h.inB.2.1))).1⟩
  refine ⟨(hk bs _ h.blk (hfx bs _ h.blk (fun cs e => by simp at e)) (hnm _ _ _ _ h.blk)).1.trans h.blk, ?_, fun i nm v h1 h2 => (h.nms i nm v h1 h2).stays keepN, hm, ?_, fun s => ?_, fun s s' g' hne h1 h2 => ?_, h.inB.1, h.inB.2.1, h.inB.2.2.1, fun s g' h1 => ?_⟩
  · obtain ⟨h1, h2⟩ := h.own
    refine ⟨h1, ?_⟩
    rcases h2 with h2 | ⟨g', cap', cur, hv, hg', hblk, r⟩
    · exact Or.inl h2
    · exact Or.inr ⟨g', cap', cur, hv, hg', (hk g' _ hblk (hfx g' _ hblk (fun cs e => by simp at e)) (hnm _ _ _ _ hblk)).1.trans hblk, r⟩
  · have := h.cnt
    simp
    omega
  · by_cases hs : s = x
    · subst hs
      rw [if_pos rfl, cntN_app, cntN_one, if_pos rfl, hx]
      refine ⟨ys ++ [.int .i64 p], row_of_block hA.own (hg.block g (row_cap hA.own).2.2.2 (fun e => ?_)), fun y hy => ?_⟩
      · have e := Option.some.inj e
        have hl := (Array.getElem?_eq_some_iff.1 hbm0).1
        exact (hA.kept bm hl (hfx bm _ hbm0 (fun cs e => by cases e))).2 e
      · rcases List.mem_append.1 hy with hy | hy
        · exact hys y hy
        · simp at hy
          exact ⟨p, hp.1, hp.2, hy⟩
    · rw [if_neg hs, cntN_app, cntN_one, if_neg (fun e => hs e.symm), Nat.add_zero]
      refine (h.rows s).of_block (fun g' hg' => ?_)
      obtain ⟨cs, hc⟩ := (h.rows s).lt hg'
      exact (hk g' _ hc (fun e => h.apart s x g' hs hg' e) (hnm _ _ _ _ hc)).1
  · have other : ∀ y, y ≠ x → (f y).ownBlock = some g → False := fun y hy e => by
      obtain ⟨cs, hc⟩ := (h.rows y).lt e
      exact (hk g _ hc (fun e2 => h.apart y x g hy e e2) (hnm _ _ _ _ hc)).2 rfl
    by_cases hs : s = x
    · rw [if_pos hs] at h1
      simp only [Value.ownBlock, Option.some.injEq] at h1
      subst h1
      rw [if_neg (fun e => hne (hs.trans e.symm))] at h2
      exact other s' (fun e => hne (hs.trans e.symm)) h2
    · rw [if_neg hs] at h1
      by_cases hs' : s' = x
      · rw [if_pos hs'] at h2
        simp only [Value.ownBlock, Option.some.injEq] at h2
        subst h2
        exact other s hs h1
      · rw [if_neg hs'] at h2
        exact h.apart s s' g' hne h1 h2
  · by_cases hs : s = x
    · rw [if_pos hs] at h1
      simp only [Value.ownBlock, Option.some.injEq] at h1
      exact h1 ▸ hgB
    · rw [if_neg hs] at h1
      exact h.inB.2.2.2 s g' h1
end Go.Proofs.YtfeijijeohfpgaaDoor
