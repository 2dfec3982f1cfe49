/-
  Several texts of the proof in one (each says below what it holds): LvG TmEq LvS LvH PlainT LvPl LvPlI LvCnt LvSpl Big LevelsLaw OpenBI Frame FrameV.
-/
import Derived.Test.YtfeijijeohfpgaaGreatDoorLv14
import Derived.Test.YtfeijijeohfpgaaGreatDoorLv1
import Derived.Test.YtfeijijeohfpgaaGreatDoorLv11
import Derived.Test.YtfeijijeohfpgaaGreatDoorLv8
import Derived.Test.YtfeijijeohfpgaaGreatDoorLv13
import Derived.Test.YtfeijijeohfpgaaGreatDoorLv4
import Derived.Test.YtfeijijeohfpgaaGreatDoorProg
import Derived.ProofKit
import Derived.OpenShut
import Derived.Carry
import Derived.Below
import Derived.OpenVars
import Derived.ChangeVars
set_option linter.unusedVariables false
set_option linter.unusedSimpArgs false
namespace Go.Proofs.YtfeijijeohfpgaaGreatDoor
open Go Go.RowKit Go.Shelf
attribute [local go_sem] Oper.semAt_some
def GenNode (e : Tm × Int) : Prop := LvNode e ∧ ¬ (e.1.kind = 11 ∧ e.2 = 1)
theorem gen_walk (t : Tm) (l : Int) : ((t.IsT ∧ t.lvOk l) ∧ t.made l) ↔ ∀ e ∈ walkL t l, GenNode e := by
  rw [levels_walk, made_walk]
  exact ⟨fun h e he => ⟨h.1 e he, h.2 e he⟩, fun h => ⟨fun e he => (h e he).1, fun e he => (h e he).2⟩⟩
theorem not_gen_at {t x : Tm} {n lv : Int} {pre : List (Tm × Int)} (h : pre ++ [(x, lv)] <+: walkL t n) (hx : ¬ GenNode (x, lv)) : ¬ ((t.IsT ∧ t.lvOk n) ∧ t.made n) := fun hh =>
  hx ((gen_walk t n).1 hh (x, lv) (h.subset (by simp)))
set_option maxRecDepth 100000 in
set_option maxHeartbeats 2000000 in
theorem genI_any {C : Nat → Prop} {t : Tm} {v : Value} {w : World} (n : Int) (hka : KA w) (h : TM w C t v) (hn : t.wt ≤ 2097152) :
    Calls Tryz.prog 13 #[v, .int .i64 n] w (Tells ((t.IsT ∧ t.lvOk n) ∧ t.made n) w) := by
  have HKA := Lib.hid (fun (w' : World) (hb : Below w.heap.size w w') => hka.below hb)
  have HWT := Lib.hid hn
  clear hka hn
  obtain ⟨tp, tc, rp, rc, p, c, rfl, hT⟩ := h
  have HT := Lib.hid (hT.mono (C' := (· < w.heap.size)) (fun _ _ h => h))
  clear hT
  refine (callsIn_wide (n := 3)).1 ?_
  refine callsIn_of_wp_marks Tryz.func13 rfl trivial ?_ rfl
  simp only [Tryz.ntmps13, List.size_toArray, List.length_cons, List.length_nil, Nat.reduceAdd, Nat.reduceSub, Array.replicate_succ, Array.replicate_zero, List.push_toArray, List.append_toArray, List.nil_append, List.cons_append]
  gi_wp2_with fail
  obtain ⟨w0, hw0, hs0, hb0, hk0, hk1⟩ := box_new2 w (tmC t tp tc rp rc p c) #[.bool false] 29 4
  rw [hw0]
  refine ⟨trivial, ?_⟩
  refine (callsIn_wide.2 (nwl_any w.heap.size 0 n w0)).mono ?_
  rintro e wl ⟨Bn, Be, rfl, hI, hbw⟩
  have hsz := hbw.size
  have hbl : Below w.heap.size w wl := hb0.trans (hbw.mono hb0.size)
  have k1 : wl.heap[w.heap.size + 1]? = some (.cells #[.bool false] 4 (0, 0)) := (hbw.block _ (by omega)).trans hk1
  have HSL : TermAt wl (fun z => z < w.heap.size + 1) t w.heap.size 0 := boxAt ((hbw.block _ (by omega)).trans hk0) (by omega) ((HT.out.stays (.of_below hbl)).mono (fun z hz _ => by omega))
  clear hk0 hk1 hb0 hw0
  gi_wp2_with fail
  refine rangeE_law (E := fun _ => False) (F := Fence.wide) (n := 3) rfl (by omega) (gf := 94) (lb := #[.pointer (some ⟨Bn, 0, none⟩), .pointer (some ⟨Be, 0, none⟩)]) rfl trivial (enters_of Tryz.func94 (by kernel_rfl) rfl)
    (B0 := fun b => b = w.heap.size + 1) (levels_seq (fun _ => False) hI HSL HWT.out (Below.refl _ _) (fun b h => by omega) (fun _ h => h.elim)) (fun _ h => h.elim) (fun _ => rfl) (fun b h h2 => by omega) (fun b h => by omega) (fun b h => by omega)
    (fun pre B N W => (∀ z, B z ↔ z = w.heap.size + 1) ∧ (∀ z, ¬ N z) ∧ W.heap[w.heap.size + 1]? = some (.cells #[.bool false] 4 (0, 0)) ∧ (∀ e ∈ pre, GenNode e) ∧ Below w.heap.size w W)
    (fun j pre B N W => (∀ z, B z ↔ z = w.heap.size + 1) ∧ j = .ret ∧ W.cell? ⟨w.heap.size + 1, 0, none⟩ = some (.bool false) ∧ ¬ ((t.IsT ∧ t.lvOk n) ∧ t.made n) ∧ Below w.heap.size w W)
    (fun pre B N A A' h hk => ⟨h.1, h.2.1, (hk.1.block _ (by omega)).trans h.2.2.1, h.2.2.2.1, h.2.2.2.2.trans (hk.1.mono (by omega))⟩)
    (fun j pre B N A A' h hk => ⟨h.1, h.2.1, (hk.1.cell (by show w.heap.size + 1 < _; omega)).trans h.2.2.1, h.2.2.2.1, h.2.2.2.2.trans (hk.1.mono (by omega))⟩)
    (fun x Y A A' l r hl hg hr hA => goodL_loop hg hA (by omega)) (fun pre B N A h z hz => by rw [(h.1 z).1 hz]; exact (Array.getElem?_eq_some_iff.1 h.2.2.1).1) (fun x Y A z hg hz => absurd hz (hg.2 z)) ⟨fun _ => Iff.rfl, fun _ h => h, k1, (fun e he => absurd he (List.not_mem_nil)), hbl⟩
    (fun x s a' W => a' = { tmps := #[tmV t tp tc rp rc p c, .int .i64 n, .pointer (some ⟨w.heap.size, 0, none⟩), undef, .pointer (some ⟨w.heap.size + 1, 0, none⟩), .pointer (some ⟨x.2.1, x.2.2, none⟩), .int .i64 x.1.2,
      .int .i64 n, iterL Bn Be, .pointer (some ⟨x.2.1, x.2.2, none⟩), .int .i64 x.1.2, undef, undef, undef, undef, undef, undef, undef, undef, undef], defers := [] })
    (fun x s a' W l r o h hl => h) ?assign ?body ?done ?stop
  case assign =>
    rintro l ⟨⟨x, lv⟩, ⟨b1, o1⟩⟩ Y W K hG hK
    have HK := Lib.hid hK
    clear hK
    gi_wp2
    exact HK.out _ _ (Below.refl _ _) (by simp)
  case body =>
    rintro l pre ⟨⟨x, lv⟩, ⟨b1, o1⟩⟩ s a' Y B N W ⟨hBo, hNo, hr, hso, hB⟩ hpre hG hYB hs rfl hlp hBl
    have hpre : pre ++ [(x, lv)] <+: walkL t n := hpre
    have hG' : TermAt W (fun z => z < w.heap.size + 1) x b1 o1 := hG.1
    have hxw : x.wt ≤ 2097152 := by
      have h1 := wt_walkL t n (x, lv) (hpre.subset (by simp))
      have h2 := HWT.out
      simp only at h1
      omega
    have HC := Lib.hid (falI_any lv (HKA.out W hB) hG' hxw)
    have HG := Lib.hid hG'
    have HR1 := Lib.hid hr
    have HB1 := Lib.hid hB
    have HSO := Lib.hid hso
    have HP := Lib.hid hpre
    have HBO := Lib.hid hBo
    have HFIN := Lib.hid (fun (W' : World) (hb : Below W.heap.size W W') => show W'.heap[w.heap.size + 1]? = some (.cells #[.bool false] 4 (0, 0)) from (hb.block _ (Array.getElem?_eq_some_iff.1 hr).1).trans hr)
    have hstop : ¬ GenNode (x, lv) → ∀ (W' : World) (q : World), Below W.heap.size W W' → q = W'.setCell ⟨w.heap.size + 1, 0, none⟩ (.bool false) → ∃ B' N' : Nat → Prop, Grew B B' W.heap.size q.heap.size ∧ (∀ z, N' z → N z ∨ Y z) ∧ Holds (fun z => B z ∨ False) W q ∧ (∀ z, B' z ↔ z = w.heap.size + 1) ∧ q.cell? ⟨w.heap.size + 1, 0, none⟩ = some (.bool false) ∧ ¬ ((t.IsT ∧ t.lvOk n) ∧ t.made n) ∧ Below w.heap.size w q := by
      rintro hno W' q hb rfl
      have hr2 := HFIN.out W' hb
      have r2 := cell_of_blk hr2 0
      simp only [List.getElem?_toArray, List.getElem?_cons_zero] at r2
      have hlt := (Array.getElem?_eq_some_iff.1 hr2).1
      refine ⟨B, fun _ => False, Grew.refl (fun b hb' => ?_), fun z hz => hz.elim, Holds.setCell (.of_below hb) ⟨w.heap.size + 1, 0, none⟩ (Or.inl ((hBo _).2 rfl)) _, hBo, World.cell?_setCell_same' W' ⟨w.heap.size + 1, 0, none⟩ (.bool false) (by rw [r2]; rfl), not_gen_at hpre hno, (hB.trans (hb.mono hB.size)).setCell (p := ⟨w.heap.size + 1, 0, none⟩) (by show w.heap.size ≤ w.heap.size + 1; omega) _⟩
      rw [(hBo b).1 hb']
      simpa [World.setCell] using hlt
    have hgo : GenNode (x, lv) → ∀ (W' : World), Below W.heap.size W W' → ∃ B' N' : Nat → Prop, Grew B B' W.heap.size W'.heap.size ∧ (∀ z, N' z → N z ∨ Y z) ∧ Holds B W W' ∧ (∀ z, B' z ↔ z = w.heap.size + 1) ∧ (∀ z, ¬ N' z) ∧ W'.heap[w.heap.size + 1]? = some (.cells #[.bool false] 4 (0, 0)) ∧ (∀ e ∈ pre ++ [(x, lv)], GenNode e) ∧ Below w.heap.size w W' := by
      intro hx W' hb
      have hr2 := HFIN.out W' hb
      refine ⟨B, fun _ => False, Grew.refl (fun b hb' => ?_), fun z hz => hz.elim, .of_below hb, hBo, fun _ h => h, hr2, fun e he => ?_, hB.trans (hb.mono hB.size)⟩
      · rw [(hBo b).1 hb']
        exact (Array.getElem?_eq_some_iff.1 hr2).1
      · rcases List.mem_append.1 he with he | he
        · exact hso e he
        · simp only [List.mem_singleton] at he
          subst he
          exact hx
    have HSTOP := Lib.hid hstop
    have HGO := Lib.hid hgo
    clear hso hpre hr hB k1 hG' HSL hbl hbw hI hxw hBo hNo hYB hs hlp hBl hG hstop hgo
    gi_wp2_with fail
    refine ⟨trivial, ?_⟩
    refine (CallsIn.inRound l (callsIn_wide.2 HC.out)).mono ?_
    rintro e W2 ⟨b, hb, rfl, hb2⟩
    have HBB := Lib.hid hb
    have HB2 := Lib.hid hb2
    have hr2 := HFIN.out W2 hb2
    have r3 := cell_of_blk hr2 0
    have rz3 := unfrozen_of_blk hr2 0
    simp only [List.getElem?_toArray, List.getElem?_cons_zero] at r3
    clear hb hb2 hr2
    cases b with
    | false =>
      gi_wp2_with fail
      refine ⟨trivial, ?_⟩
      gi_wp2_with fail
      obtain ⟨B', N', h1, h2, h3, h4, h5, h6, h7⟩ := HSTOP.out (fun h => by have := HBB.out.2 h.1; cases this) W2 _ HB2.out rfl
      exact ⟨B', N', h1, h2, h3, h4, rfl, h5, h6, h7⟩
    | true =>
      gi_wp2_with fail
      refine ⟨trivial, ?_⟩
      refine (CallsIn.inRound l (callsIn_wide.2 (sonI_any lv (HG.out.stays (.of_below HB2.out))))).mono ?_
      rintro e W3 ⟨q, hq, rfl, hb3⟩
      have HQ := Lib.hid hq
      have HB3 := Lib.hid (HB2.out.trans (hb3.mono HB2.out.size))
      have hr3 := HFIN.out W3 HB3.out
      have r4 := cell_of_blk hr3 0
      have rz4 := unfrozen_of_blk hr3 0
      simp only [List.getElem?_toArray, List.getElem?_cons_zero] at r4
      clear hq hb3 r3 rz3 hr3
      cases q with
      | true =>
        gi_wp2_with fail
        obtain ⟨B', N', h1, h2, h3, h4, h5, h6, h7⟩ := HSTOP.out (fun h => h.2 (HQ.out.1 (by trivial))) W3 _ HB3.out rfl
        exact ⟨B', N', h1, h2, h3, h4, rfl, h5, h6, h7⟩
      | false =>
        gi_wp2_with fail
        exact HGO.out ⟨HBB.out.1 (by trivial), fun h => by have := HQ.out.2 h; cases this⟩ W3 HB3.out
  case done =>
    rintro D B N W hD hne ⟨hBo, hNo, hr, hso, hB⟩ hK
    have r0 := cell_of_blk hr 0
    have rz := unfrozen_of_blk hr 0
    simp only [List.getElem?_toArray, List.getElem?_cons_zero] at r0
    have HV := Lib.hid ((gen_walk t n).2 hso)
    have HB := Lib.hid hB
    have hK' : (W.setCell ⟨w.heap.size + 1, 0, none⟩ (.bool true)).heap[D]? = some (.deferred (some [])) := (Below.heap_setCell _ _ _ _ (by show D ≠ w.heap.size + 1; omega)).trans hK
    clear hso hB hr hK k1 HSL hbl hbw hI hBo hNo hne
    gi_wp2_with fail
    refine ⟨by simp, .inl ⟨_, _, rfl, run_takeDeferred hK', ?_⟩⟩
    have hc := (World.cell?_of_block (a := ⟨w.heap.size + 1, 0, none⟩) (w' := (W.setCell ⟨w.heap.size + 1, 0, none⟩ (.bool true)).putObj D (.deferred none)) (World.putObj_heap_other (by show w.heap.size + 1 ≠ D; omega))).trans (World.cell?_setCell_same' W ⟨w.heap.size + 1, 0, none⟩ (.bool true) (by rw [r0]; rfl))
    refine ⟨.bool true, ?_, _, ⟨fun _ => HV.out, fun _ => rfl⟩, rfl, (HB.out.setCell (p := ⟨w.heap.size + 1, 0, none⟩) (by show w.heap.size ≤ w.heap.size + 1; omega) _).trans (below_putObj _ _ _ _ (by omega))⟩
    rw [results_cell1 rfl]
    go_simp
  case stop =>
    rintro D c pre B N W hD hne hpre ⟨hBo, rfl, hr, hv, hB⟩ hK
    have HB := Lib.hid hB
    have HV := Lib.hid hv
    clear hv hB k1 HSL hbl hbw hI hBo hne
    gi_wp2_with fail
    refine ⟨by simp, .inl ⟨_, _, rfl, run_takeDeferred hK, ?_⟩⟩
    have hc := (World.cell?_of_block (a := ⟨w.heap.size + 1, 0, none⟩) (w' := W.putObj D (.deferred none)) (World.putObj_heap_other (by show w.heap.size + 1 ≠ D; omega))).trans hr
    refine ⟨.bool false, ?_, _, ⟨fun h => by simp at h, fun h => absurd h HV.out⟩, rfl, HB.out.trans (below_putObj _ _ _ _ (by omega))⟩
    rw [results_cell1 rfl]
    go_simp
end Go.Proofs.YtfeijijeohfpgaaGreatDoor
namespace Go.Proofs.YtfeijijeohfpgaaGreatDoor
open Go Go.RowKit
theorem keep18 {w W w1 : World} {p0 p1 p2 p3 p4 p5 p6 p7 p8 p9 p10 p11 p12 p13 p14 p15 p16 p17 : Addr} {v0 v1 v2 v3 v4 v5 v6 v7 v8 v9 v10 v11 v12 v13 v14 v15 v16 v17 : Value} (hb1 : Below W.heap.size W w1) (h : W.cell? p0 = some v0 ∧ W.cell? p1 = some v1 ∧ W.cell? p2 = some v2 ∧ W.cell? p3 = some v3 ∧ W.cell? p4 = some v4 ∧ W.cell? p5 = some v5 ∧ W.cell? p6 = some v6 ∧ W.cell? p7 = some v7 ∧ W.cell? p8 = some v8 ∧ W.cell? p9 = some v9 ∧ W.cell? p10 = some v10 ∧ W.cell? p11 = some v11 ∧ W.cell? p12 = some v12 ∧ W.cell? p13 = some v13 ∧ W.cell? p14 = some v14 ∧ W.cell? p15 = some v15 ∧ W.cell? p16 = some v16 ∧ W.cell? p17 = some v17 ∧ Below w.heap.size w W) : w1.cell? p0 = some v0 ∧ w1.cell? p1 = some v1 ∧ w1.cell? p2 = some v2 ∧ w1.cell? p3 = some v3 ∧ w1.cell? p4 = some v4 ∧ w1.cell? p5 = some v5 ∧ w1.cell? p6 = some v6 ∧ w1.cell? p7 = some v7 ∧ w1.cell? p8 = some v8 ∧ w1.cell? p9 = some v9 ∧ w1.cell? p10 = some v10 ∧ w1.cell? p11 = some v11 ∧ w1.cell? p12 = some v12 ∧ w1.cell? p13 = some v13 ∧ w1.cell? p14 = some v14 ∧ w1.cell? p15 = some v15 ∧ w1.cell? p16 = some v16 ∧ w1.cell? p17 = some v17 ∧ Below w.heap.size w w1 := by
  obtain ⟨h0, h1, h2, h3, h4, h5, h6, h7, h8, h9, h10, h11, h12, h13, h14, h15, h16, h17, hz⟩ := h
  exact ⟨keepN hb1 h0, keepN hb1 h1, keepN hb1 h2, keepN hb1 h3, keepN hb1 h4, keepN hb1 h5, keepN hb1 h6, keepN hb1 h7, keepN hb1 h8, keepN hb1 h9, keepN hb1 h10, keepN hb1 h11, keepN hb1 h12, keepN hb1 h13, keepN hb1 h14, keepN hb1 h15, keepN hb1 h16, keepN hb1 h17, hz.trans (hb1.mono hz.size)⟩
variable {C : Nat → Prop}
set_option maxRecDepth 100000 in
set_option maxHeartbeats 1000000 in
theorem nextS_any (t : Tm) (tp : Option Addr) (tc : Nat) (rp : Option Addr) (rc : Nat) (p : Option Addr) (c : Nat) (n : Int) (w : World) :
    Calls Tryz.prog 101 #[tmV t tp tc rp rc p c, .int .i64 n] w fun e w' => e = .returned (.int .i64 (nextL t.kind n)) ∧ Below w.heap.size w w' := by
  have hn1 : t.kind = 10 → nextL t.kind n = wrap64 (n + 1) := fun h => by unfold nextL; rw [if_pos h]
  have hn2 : t.kind = 11 → nextL t.kind n = wrap64 (n - 1) := fun h => by unfold nextL; rw [if_neg (by omega), if_pos h]
  have hn3 : ¬ t.kind = 10 → ¬ t.kind = 11 → nextL t.kind n = n := fun h h2 => by unfold nextL; rw [if_neg h, if_neg h2]
  have HB0 := Lib.hid (al_below w (.cells (tmC t tp tc rp rc p c) 29))
  generalize nextL t.kind n = r at hn1 hn2 hn3 ⊢
  obtain ⟨g0, _, _, _, _, _, _, _, _⟩ := Bx9.new w t tp tc rp rc p c 29
  by_cases h1 : t.kind = 10
  · obtain rfl := hn1 h1
    have t1 : (t.kind == 10) = true := by simp [h1]
    clear hn1 hn2 hn3 h1
    go_enter Tryz.func101, Tryz.ntmps101
    go_wp2_with fail
    go_ret
    exact ⟨rfl, HB0.out⟩
  · by_cases h2 : t.kind = 11
    · obtain rfl := hn2 h2
      have t1 : (t.kind == 10) = false := by simp [h1]
      have t2 : (t.kind == 11) = true := by simp [h2]
      clear hn1 hn2 hn3 h1 h2
      go_enter Tryz.func101, Tryz.ntmps101
      go_wp2_with fail
      go_ret
      exact ⟨rfl, HB0.out⟩
    · obtain rfl := hn3 h1 h2
      have t1 : (t.kind == 10) = false := by simp [h1]
      have t2 : (t.kind == 11) = false := by simp [h2]
      clear hn1 hn2 hn3 h1 h2
      go_enter Tryz.func101, Tryz.ntmps101
      go_wp2_with fail
      go_ret
      exact ⟨rfl, HB0.out⟩
set_option maxRecDepth 100000 in
set_option maxHeartbeats 4000000 in
theorem l8Ok_any : ∀ (m : Nat) {t : Tm} {tp : Option Addr} {tc : Nat} {rp : Option Addr} {rc : Nat} {p : Option Addr} {c : Nat} (n : Int) (w : World), t.nodes ≤ m → TM' w C t tp tc rp rc p c → t.wt ≤ 2097152 → Calls Tryz.prog 45 #[tmV t tp tc rp rc p c, .int .i64 n] w (Tells (t.lvOk n) w)
  | 0, t, tp, tc, rp, rc, p, c, n, w, hm, hT, hn => by rw [t.nodes_eq] at hm; omega
  | m + 1, t, tp, tc, rp, rc, p, c, n, w, hm, hT, hn => by
    have HT := Lib.hid hT
    have HX0 := Lib.hid (Bx9.new w t tp tc rp rc p c 29)
    have HB0 := Lib.hid (al_below w (.cells (tmC t tp tc rp rc p c) 29))
    have hne := t.nodes_eq
    have hwe := t.wt_eq
    have hlen := wtS_ge t.args
    have HM := Lib.hid hm
    have HNE := Lib.hid hne
    have HWE := Lib.hid hwe
    have HWN := Lib.hid hn
    have HLE := Lib.hid ((t.lvOk_eq n).trans (and_congr_right fun _ => lvOkS_iff _ _))
    have hwa : wtS t.args ≤ 2097152 := by omega
    clear hT hne hwe hm hn
    go_enter Tryz.func45, Tryz.ntmps45
    go_wp2_with fail
    refine (in_any n 0 2 _).mono ?_
    rintro e w1 ⟨rfl, rfl⟩
    by_cases hin : 0 ≤ n ∧ n ≤ 2
    rotate_left
    · rw [decide_eq_false hin]
      have HIN := Lib.hid hin
      clear hin
      go_wp2_with fail
      go_ret
      exact ⟨false, by simp only [Bool.false_eq_true, false_iff]; exact fun h => HIN.out (HLE.out.1 h).1, rfl, HB0.out⟩
    rw [decide_eq_true hin]
    have HIN := Lib.hid hin
    clear hin
    go_wp2_with fail
    go_loopw [5] (fun i wr => ∃ (k : Nat), k ≤ t.args.length ∧ i = .int .i64 k ∧ (∀ x ∈ t.args.take k, (x.lvOk (nextL t.kind n))) ∧ Below (w.alloc (.cells (tmC t tp tc rp rc p c) 29)).heap.size (w.alloc (.cells (tmC t tp tc rp rc p c) 29)) wr) (fun i _ => t.args.length - (intOf i).toNat)
    case atStart => exact ⟨0, Nat.zero_le _, rfl, by simp, Below.refl _ _⟩
    case round =>
      obtain ⟨k, hk, rfl, hts, hbr⟩ := hrel
      have HTS := Lib.hid hts
      have HBR := Lib.hid hbr
      have HBW := Lib.hid (HB0.out.trans (hbr.mono HB0.out.size))
      obtain ⟨d0, d1, d2, d3, d4, d5, d6, d7, d8⟩ := HX0.out.keep hbr
      clear hbr hts
      by_cases hlk : k < t.args.length
      · obtain ⟨b, o, tp2, tc2, rp2, rc2, p2, c2, rfl, hC, hb, h9, hP⟩ := tm_part HT.out.args k hlk
        obtain ⟨g0, g1, g2, g3, g4, g5, g6, g7, g8⟩ := h9 wr (.of_below HBW.out)
        have n4 := nodesM_at t.args k hlk
        have n5 := wtS_at t.args k hlk
        have hmk : t.args[k].nodes ≤ m := by have := HM.out; have := HNE.out; omega
        have hi0 : (0 : Int) ≤ (k : Int) := Int.natCast_nonneg _
        have hi1 : (k : Int) < (t.args.length : Int) := by omega
        have HC := Lib.hid (fun (W : World) (hb : Below wr.heap.size wr W) => l8Ok_any m (nextL t.kind n) W hmk (hP.stays (.of_below (HBW.out.trans (hb.mono HBW.out.size)))) (by omega))
        clear hC hb h9 hP n4 n5 hmk
        go_wp2_with fail
        go_region_held3 (fun w' => w'.cell? ⟨w.heap.size, 0, none⟩ = some (.int .i64 t.kind) ∧ w'.cell? ⟨w.heap.size, 1, none⟩ = some (.string t.name) ∧ w'.cell? ⟨w.heap.size, 2, none⟩ = some (.string t.other) ∧ w'.cell? ⟨w.heap.size, 3, none⟩ = some (.int .i64 t.n) ∧ w'.cell? ⟨w.heap.size, 4, none⟩ = some (.int .i64 t.ty.kind) ∧ w'.cell? ⟨w.heap.size, 5, none⟩ = some (.slice tp t.ty.args.length tc) ∧ w'.cell? ⟨w.heap.size, 6, none⟩ = some (.int .i64 t.res.kind) ∧ w'.cell? ⟨w.heap.size, 7, none⟩ = some (.slice rp t.res.args.length rc) ∧ w'.cell? ⟨w.heap.size, 8, none⟩ = some (.slice (some ⟨b, o, none⟩) t.args.length c) ∧ w'.cell? ⟨b, o + k * 9, none⟩ = some (.int .i64 t.args[k].kind) ∧ w'.cell? ⟨b, o + k * 9 + 1, none⟩ = some (.string t.args[k].name) ∧ w'.cell? ⟨b, o + k * 9 + 2, none⟩ = some (.string t.args[k].other) ∧ w'.cell? ⟨b, o + k * 9 + 3, none⟩ = some (.int .i64 t.args[k].n) ∧ w'.cell? ⟨b, o + k * 9 + 4, none⟩ = some (.int .i64 t.args[k].ty.kind) ∧ w'.cell? ⟨b, o + k * 9 + 5, none⟩ = some (.slice tp2 t.args[k].ty.args.length tc2) ∧ w'.cell? ⟨b, o + k * 9 + 6, none⟩ = some (.int .i64 t.args[k].res.kind) ∧ w'.cell? ⟨b, o + k * 9 + 7, none⟩ = some (.slice rp2 t.args[k].res.args.length rc2) ∧ w'.cell? ⟨b, o + k * 9 + 8, none⟩ = some (.slice p2 t.args[k].args.length c2) ∧ Below wr.heap.size wr w')
          (first
            | (go_keep; done)
            | exact ⟨d0, d1, d2, d3, d4, d5, d6, d7, d8, g0, g1, g2, g3, g4, g5, g6, g7, g8, (Below.refl _ _).drew⟩
            | exact keep18 hb7 (by assumption)
            | exact keep18 hb6 (by assumption))
          (first
            | (go_at_call 101; refine (nextS_any t tp tc rp rc (some ⟨b, o, none⟩) c n _).mono ?_; rintro e w6 ⟨rfl, hb6⟩)
            | (go_at_call 45; refine (HC.out _ ((Below.refl _ _).drew.trans hb6)).mono ?_; rintro e w7 ⟨r, hr, rfl, hb7⟩))
        rename_i hH
        have hb2 := hH.2.2.2.2.2.2.2.2.2.2.2.2.2.2.2.2.2.2
        have HB2 := Lib.hid (HBR.out.trans (hb2.mono HBR.out.size))
        clear hH hb6 hb7 g0 g1 g2 g3 g4 g5 g6 g7 g8
        have HR := Lib.hid hr
        clear hr hb2
        cases hr0 : r
        · have hnf : ¬ (t.args[k].lvOk (nextL t.kind n)) := fun h => by have := HR.out.2 h; rw [hr0] at this; cases this
          have HF := Lib.hid hnf
          clear hnf
          subst hr0
          go_wp2_with fail
          go_ret
          exact ⟨false, by simp only [Bool.false_eq_true, false_iff]; exact fun h => HF.out ((HLE.out.1 h).2 _ (List.getElem_mem hlk)), rfl, box_rest HB2.out⟩
        · have HF := Lib.hid (HR.out.1 hr0)
          subst hr0
          go_wp2_with fail
          go_roundw
          case rel => exact ⟨k + 1, by omega, by go_num, (take_all hlk).2 ⟨HTS.out, HF.out⟩, HB2.out⟩
          case measure => simp [intOf]; omega
      · obtain rfl : k = t.args.length := by omega
        have hall := HTS.out
        rw [List.take_length] at hall
        have HALL := Lib.hid hall
        clear hall
        go_wp2_with fail
        go_ret
        exact ⟨true, by simp only [true_iff]; exact HLE.out.2 ⟨HIN.out, HALL.out⟩, rfl, HBW.out⟩
set_option maxRecDepth 100000 in
set_option maxHeartbeats 4000000 in
theorem l8Plain_any : ∀ (m : Nat) {t : Tm} {tp : Option Addr} {tc : Nat} {rp : Option Addr} {rc : Nat} {p : Option Addr} {c : Nat} (w : World), t.nodes ≤ m → TM' w C t tp tc rp rc p c → t.wt ≤ 2097152 → Calls Tryz.prog 50 #[tmV t tp tc rp rc p c] w (Tells t.pln w)
  | 0, t, tp, tc, rp, rc, p, c, w, hm, hT, hn => by rw [t.nodes_eq] at hm; omega
  | m + 1, t, tp, tc, rp, rc, p, c, w, hm, hT, hn => by
    have HT := Lib.hid hT
    have HX0 := Lib.hid (Bx9.new w t tp tc rp rc p c 29)
    have HB0 := Lib.hid (al_below w (.cells (tmC t tp tc rp rc p c) 29))
    have hne := t.nodes_eq
    have hwe := t.wt_eq
    have hlen := wtS_ge t.args
    have HM := Lib.hid hm
    have HNE := Lib.hid hne
    have HWE := Lib.hid hwe
    have HWN := Lib.hid hn
    have HLE := Lib.hid (t.pln_eq.trans (and_congr (plnS_iff _) Iff.rfl))
    have hwa : wtS t.args ≤ 2097152 := by omega
    clear hT hne hwe hm hn
    go_enter Tryz.func50, Tryz.ntmps50
    go_wp2_with fail
    go_loopw [3] (fun i wr => ∃ (k : Nat), k ≤ t.args.length ∧ i = .int .i64 k ∧ (∀ x ∈ t.args.take k, x.pln) ∧ Below (w.alloc (.cells (tmC t tp tc rp rc p c) 29)).heap.size (w.alloc (.cells (tmC t tp tc rp rc p c) 29)) wr) (fun i _ => t.args.length - (intOf i).toNat)
    case atStart => exact ⟨0, Nat.zero_le _, rfl, by simp, Below.refl _ _⟩
    case round =>
      obtain ⟨k, hk, rfl, hts, hbr⟩ := hrel
      have HTS := Lib.hid hts
      have HBR := Lib.hid hbr
      have HBW := Lib.hid (HB0.out.trans (hbr.mono HB0.out.size))
      obtain ⟨d0, d1, d2, d3, d4, d5, d6, d7, d8⟩ := HX0.out.keep hbr
      clear hbr hts
      by_cases hlk : k < t.args.length
      · obtain ⟨b, o, tp2, tc2, rp2, rc2, p2, c2, rfl, hC, hb, h9, hP⟩ := tm_part HT.out.args k hlk
        obtain ⟨g0, g1, g2, g3, g4, g5, g6, g7, g8⟩ := h9 wr (.of_below HBW.out)
        have n4 := nodesM_at t.args k hlk
        have n5 := wtS_at t.args k hlk
        have hmk : t.args[k].nodes ≤ m := by have := HM.out; have := HNE.out; omega
        have hi0 : (0 : Int) ≤ (k : Int) := Int.natCast_nonneg _
        have hi1 : (k : Int) < (t.args.length : Int) := by omega
        have HC := Lib.hid (fun (W : World) (hb : Below wr.heap.size wr W) => l8Plain_any m W hmk (hP.stays (.of_below (HBW.out.trans (hb.mono HBW.out.size)))) (by omega))
        clear hC hb h9 hP n4 n5 hmk
        go_wp2_with fail
        refine (HC.out _ (Below.refl _ _)).mono ?_
        rintro e w2 ⟨r, hr, rfl, hb2⟩
        have HB2 := Lib.hid (HBR.out.trans (hb2.mono HBR.out.size))
        have HR := Lib.hid hr
        clear hr hb2
        cases hr0 : r
        · have hnf : ¬ t.args[k].pln := fun h => by have := HR.out.2 h; rw [hr0] at this; cases this
          have HF := Lib.hid hnf
          clear hnf
          subst hr0
          go_wp2_with fail
          go_ret
          exact ⟨false, by simp only [Bool.false_eq_true, false_iff]; exact fun h => HF.out ((HLE.out.1 h).1 _ (List.getElem_mem hlk)), rfl, box_rest HB2.out⟩
        · have HF := Lib.hid (HR.out.1 hr0)
          subst hr0
          go_wp2_with fail
          go_roundw
          case rel => exact ⟨k + 1, by omega, by go_num, (take_all hlk).2 ⟨HTS.out, HF.out⟩, HB2.out⟩
          case measure => simp [intOf]; omega
      · obtain rfl : k = t.args.length := by omega
        have hall := HTS.out
        rw [List.take_length] at hall
        have HALL := Lib.hid hall
        clear hall
        have HTY := Lib.hid (has_any (C := C) (ts := t.ty.args) (v := .slice tp t.ty.args.length tc) (HT.out.ty) wr t.ty.kind 4 (.of_below HBW.out) (by have := HWE.out; have := HWN.out; omega))
        by_cases hk10 : t.kind < 10
        rotate_left
        · have HK := Lib.hid hk10
          go_wp2_with fail
          go_ret
          exact ⟨false, by simp only [Bool.false_eq_true, false_iff]; exact fun h => (by have := (HLE.out.1 h).2.1; omega), rfl, HBW.out⟩
        have HK := Lib.hid hk10
        go_wp2_with fail
        refine HTY.out.mono ?_
        rintro e w2 ⟨r, hr, rfl, hb2⟩
        rw [← Ty.eta] at hr
        have HR := Lib.hid hr
        have HB2 := Lib.hid (HBW.out.trans (hb2.mono HBW.out.size))
        obtain ⟨_, _, _, _, _, _, f6, f7, _⟩ := (HX0.out.keep HBR.out).keep hb2
        clear hr hb2
        cases r with
        | true =>
          go_wp2_with fail
          go_ret
          exact ⟨false, by simp only [Bool.false_eq_true, false_iff]; exact fun h => (by have := (HLE.out.1 h).2.2.1; rw [← HR.out] at this; cases this), rfl, HB2.out⟩
        | false =>
          have HRS := Lib.hid (has_any (C := C) (ts := t.res.args) (v := .slice rp t.res.args.length rc) (HT.out.res) w2 t.res.kind 4 (.of_below HB2.out) (by have := HWE.out; have := HWN.out; omega))
          go_wp2_with fail
          refine HRS.out.mono ?_
          rintro e w3 ⟨r3, hr3, rfl, hb3⟩
          rw [← Ty.eta] at hr3
          have HR3 := Lib.hid hr3
          have HB3 := Lib.hid (HB2.out.trans (hb3.mono HB2.out.size))
          clear hr3 hb3
          go_wp2_with fail
          go_ret
          refine ⟨!r3, ?_, rfl, HB3.out⟩
          rw [HLE.out, ← HR3.out, ← HR.out]
          simp only [HALL.out, HK.out]
          cases r3 <;> simp
          exact HALL.out
set_option maxRecDepth 100000 in
set_option maxHeartbeats 4000000 in
theorem l8Made_any : ∀ (m : Nat) {t : Tm} {tp : Option Addr} {tc : Nat} {rp : Option Addr} {rc : Nat} {p : Option Addr} {c : Nat} (n : Int) (w : World), t.nodes ≤ m → TM' w C t tp tc rp rc p c → t.wt ≤ 2097152 → Calls Tryz.prog 52 #[tmV t tp tc rp rc p c, .int .i64 n] w (Tells (t.made n) w)
  | 0, t, tp, tc, rp, rc, p, c, n, w, hm, hT, hn => by rw [t.nodes_eq] at hm; omega
  | m + 1, t, tp, tc, rp, rc, p, c, n, w, hm, hT, hn => by
    have HT := Lib.hid hT
    have HX0 := Lib.hid (Bx9.new w t tp tc rp rc p c 29)
    have HB0 := Lib.hid (al_below w (.cells (tmC t tp tc rp rc p c) 29))
    have hne := t.nodes_eq
    have hwe := t.wt_eq
    have hlen := wtS_ge t.args
    have HM := Lib.hid hm
    have HNE := Lib.hid hne
    have HWE := Lib.hid hwe
    have HWN := Lib.hid hn
    have HLE := Lib.hid ((t.made_eq n).trans (and_congr_right fun _ => madeS_iff _ _))
    have hwa : wtS t.args ≤ 2097152 := by omega
    clear hT hne hwe hm hn
    go_enter Tryz.func52, Tryz.ntmps52
    obtain ⟨c0, _, _, _, _, _, _, _, _⟩ := HX0.out
    by_cases hin : t.kind = 11 ∧ n = 1
    · have t1 : (t.kind == 11) = true := by simp [hin.1]
      have t2 : (n == 1) = true := by simp [hin.2]
      have HIN := Lib.hid hin
      clear hin
      go_wp2_with fail
      go_ret
      exact ⟨false, by simp only [Bool.false_eq_true, false_iff]; exact fun h => (HLE.out.1 h).1 HIN.out, rfl, HB0.out⟩
    have HIN := Lib.hid hin
    have HTW := Lib.hid (show (t.kind == 11) = true ∧ (n == 1) = false ∨ (t.kind == 11) = false by
      by_cases h : t.kind = 11
      · exact Or.inl ⟨by simp [h], by simp; exact fun h2 => hin ⟨h, h2⟩⟩
      · exact Or.inr (by simp [h]))
    clear hin
    rcases HTW.out with ⟨t1, t2⟩ | t1
    all_goals
      go_wp2_with fail
      clear c0 t1
      try clear t2
      go_loopw [5] (fun i wr => ∃ (k : Nat), k ≤ t.args.length ∧ i = .int .i64 k ∧ (∀ x ∈ t.args.take k, (x.made (nextL t.kind n))) ∧ Below (w.alloc (.cells (tmC t tp tc rp rc p c) 29)).heap.size (w.alloc (.cells (tmC t tp tc rp rc p c) 29)) wr) (fun i _ => t.args.length - (intOf i).toNat)
      case atStart => exact ⟨0, Nat.zero_le _, rfl, by simp, Below.refl _ _⟩
      case round =>
        obtain ⟨k, hk, rfl, hts, hbr⟩ := hrel
        have HTS := Lib.hid hts
        have HBR := Lib.hid hbr
        have HBW := Lib.hid (HB0.out.trans (hbr.mono HB0.out.size))
        obtain ⟨d0, d1, d2, d3, d4, d5, d6, d7, d8⟩ := HX0.out.keep hbr
        clear hbr hts
        by_cases hlk : k < t.args.length
        · obtain ⟨b, o, tp2, tc2, rp2, rc2, p2, c2, rfl, hC, hb, h9, hP⟩ := tm_part HT.out.args k hlk
          obtain ⟨g0, g1, g2, g3, g4, g5, g6, g7, g8⟩ := h9 wr (.of_below HBW.out)
          have n4 := nodesM_at t.args k hlk
          have n5 := wtS_at t.args k hlk
          have hmk : t.args[k].nodes ≤ m := by have := HM.out; have := HNE.out; omega
          have hi0 : (0 : Int) ≤ (k : Int) := Int.natCast_nonneg _
          have hi1 : (k : Int) < (t.args.length : Int) := by omega
          have HC := Lib.hid (fun (W : World) (hb : Below wr.heap.size wr W) => l8Made_any m (nextL t.kind n) W hmk (hP.stays (.of_below (HBW.out.trans (hb.mono HBW.out.size)))) (by omega))
          clear hC hb h9 hP n4 n5 hmk
          go_wp2_with fail
          go_region_held3 (fun w' => w'.cell? ⟨w.heap.size, 0, none⟩ = some (.int .i64 t.kind) ∧ w'.cell? ⟨w.heap.size, 1, none⟩ = some (.string t.name) ∧ w'.cell? ⟨w.heap.size, 2, none⟩ = some (.string t.other) ∧ w'.cell? ⟨w.heap.size, 3, none⟩ = some (.int .i64 t.n) ∧ w'.cell? ⟨w.heap.size, 4, none⟩ = some (.int .i64 t.ty.kind) ∧ w'.cell? ⟨w.heap.size, 5, none⟩ = some (.slice tp t.ty.args.length tc) ∧ w'.cell? ⟨w.heap.size, 6, none⟩ = some (.int .i64 t.res.kind) ∧ w'.cell? ⟨w.heap.size, 7, none⟩ = some (.slice rp t.res.args.length rc) ∧ w'.cell? ⟨w.heap.size, 8, none⟩ = some (.slice (some ⟨b, o, none⟩) t.args.length c) ∧ w'.cell? ⟨b, o + k * 9, none⟩ = some (.int .i64 t.args[k].kind) ∧ w'.cell? ⟨b, o + k * 9 + 1, none⟩ = some (.string t.args[k].name) ∧ w'.cell? ⟨b, o + k * 9 + 2, none⟩ = some (.string t.args[k].other) ∧ w'.cell? ⟨b, o + k * 9 + 3, none⟩ = some (.int .i64 t.args[k].n) ∧ w'.cell? ⟨b, o + k * 9 + 4, none⟩ = some (.int .i64 t.args[k].ty.kind) ∧ w'.cell? ⟨b, o + k * 9 + 5, none⟩ = some (.slice tp2 t.args[k].ty.args.length tc2) ∧ w'.cell? ⟨b, o + k * 9 + 6, none⟩ = some (.int .i64 t.args[k].res.kind) ∧ w'.cell? ⟨b, o + k * 9 + 7, none⟩ = some (.slice rp2 t.args[k].res.args.length rc2) ∧ w'.cell? ⟨b, o + k * 9 + 8, none⟩ = some (.slice p2 t.args[k].args.length c2) ∧ Below wr.heap.size wr w')
            (first
              | (go_keep; done)
              | exact ⟨d0, d1, d2, d3, d4, d5, d6, d7, d8, g0, g1, g2, g3, g4, g5, g6, g7, g8, (Below.refl _ _).drew⟩
              | exact keep18 hb7 (by assumption)
              | exact keep18 hb6 (by assumption))
            (first
              | (go_at_call 101; refine (nextS_any t tp tc rp rc (some ⟨b, o, none⟩) c n _).mono ?_; rintro e w6 ⟨rfl, hb6⟩)
              | (go_at_call 52; refine (HC.out _ ((Below.refl _ _).drew.trans hb6)).mono ?_; rintro e w7 ⟨r, hr, rfl, hb7⟩))
          rename_i hH
          have hb2 := hH.2.2.2.2.2.2.2.2.2.2.2.2.2.2.2.2.2.2
          have HB2 := Lib.hid (HBR.out.trans (hb2.mono HBR.out.size))
          clear hH hb6 hb7 g0 g1 g2 g3 g4 g5 g6 g7 g8
          have HR := Lib.hid hr
          clear hr hb2
          cases hr0 : r
          · have hnf : ¬ (t.args[k].made (nextL t.kind n)) := fun h => by have := HR.out.2 h; rw [hr0] at this; cases this
            have HF := Lib.hid hnf
            clear hnf
            subst hr0
            go_wp2_with fail
            go_ret
            exact ⟨false, by simp only [Bool.false_eq_true, false_iff]; exact fun h => HF.out ((HLE.out.1 h).2 _ (List.getElem_mem hlk)), rfl, box_rest HB2.out⟩
          · have HF := Lib.hid (HR.out.1 hr0)
            subst hr0
            go_wp2_with fail
            go_roundw
            case rel => exact ⟨k + 1, by omega, by go_num, (take_all hlk).2 ⟨HTS.out, HF.out⟩, HB2.out⟩
            case measure => simp [intOf]; omega
        · obtain rfl : k = t.args.length := by omega
          have hall := HTS.out
          rw [List.take_length] at hall
          have HALL := Lib.hid hall
          clear hall
          go_wp2_with fail
          go_ret
          exact ⟨true, by simp only [true_iff]; exact HLE.out.2 ⟨HIN.out, HALL.out⟩, rfl, HBW.out⟩
set_option maxRecDepth 100000 in
set_option maxHeartbeats 4000000 in
theorem l8High_any : ∀ (m : Nat) {t : Tm} {tp : Option Addr} {tc : Nat} {rp : Option Addr} {rc : Nat} {p : Option Addr} {c : Nat} (n : Int) (w : World), t.nodes ≤ m → TM' w C t tp tc rp rc p c → t.wt ≤ 2097152 → Calls Tryz.prog 54 #[tmV t tp tc rp rc p c, .int .i64 n] w (IntRet (fun r => r = t.high n) w)
  | 0, t, tp, tc, rp, rc, p, c, n, w, hm, hT, hn => by rw [t.nodes_eq] at hm; omega
  | m + 1, t, tp, tc, rp, rc, p, c, n, w, hm, hT, hn => by
    have HT := Lib.hid hT
    have HX0 := Lib.hid (Bx9.new w t tp tc rp rc p c 29)
    have HB0 := Lib.hid (al_below w (.cells (tmC t tp tc rp rc p c) 29))
    have hne := t.nodes_eq
    have hwe := t.wt_eq
    have hlen := wtS_ge t.args
    have HM := Lib.hid hm
    have HNE := Lib.hid hne
    have HHE := Lib.hid (t.high_eq n)
    have hwa : wtS t.args ≤ 2097152 := by omega
    clear hT hne hwe hm hn
    go_enter Tryz.func54, Tryz.ntmps54
    go_wp2_with fail
    go_loopw [5, 6] (fun q i wr => ∃ (k : Nat), k ≤ t.args.length ∧ i = .int .i64 k ∧ q = .int .i64 (highS (t.args.take k) (nextL t.kind n) n) ∧ Below (w.alloc (.cells (tmC t tp tc rp rc p c) 29)).heap.size (w.alloc (.cells (tmC t tp tc rp rc p c) 29)) wr) (fun _ i _ => t.args.length - (intOf i).toNat)
    case atStart => exact ⟨0, Nat.zero_le _, rfl, by simp [highS], Below.refl _ _⟩
    case round =>
      obtain ⟨k, hk, rfl, rfl, hbr⟩ := hrel
      have HBR := Lib.hid hbr
      have HBW := Lib.hid (HB0.out.trans (hbr.mono HB0.out.size))
      obtain ⟨d0, d1, d2, d3, d4, d5, d6, d7, d8⟩ := HX0.out.keep hbr
      clear hbr
      by_cases hlk : k < t.args.length
      · obtain ⟨b, o, tp2, tc2, rp2, rc2, p2, c2, rfl, hC, hb, h9, hP⟩ := tm_part HT.out.args k hlk
        obtain ⟨g0, g1, g2, g3, g4, g5, g6, g7, g8⟩ := h9 wr (.of_below HBW.out)
        have n4 := nodesM_at t.args k hlk
        have n5 := wtS_at t.args k hlk
        have hmk : t.args[k].nodes ≤ m := by have := HM.out; have := HNE.out; omega
        have hi0 : (0 : Int) ≤ (k : Int) := Int.natCast_nonneg _
        have hi1 : (k : Int) < (t.args.length : Int) := by omega
        have HC := Lib.hid (fun (W : World) (hb : Below wr.heap.size wr W) => l8High_any m (nextL t.kind n) W hmk (hP.stays (.of_below (HBW.out.trans (hb.mono HBW.out.size)))) (by omega))
        have HHT := Lib.hid (highS_take t.args (nextL t.kind n) n k hlk)
        clear hC hb h9 hP n4 n5 hmk
        go_wp2_with fail
        go_region_held3 (fun w' => w'.cell? ⟨w.heap.size, 0, none⟩ = some (.int .i64 t.kind) ∧ w'.cell? ⟨w.heap.size, 1, none⟩ = some (.string t.name) ∧ w'.cell? ⟨w.heap.size, 2, none⟩ = some (.string t.other) ∧ w'.cell? ⟨w.heap.size, 3, none⟩ = some (.int .i64 t.n) ∧ w'.cell? ⟨w.heap.size, 4, none⟩ = some (.int .i64 t.ty.kind) ∧ w'.cell? ⟨w.heap.size, 5, none⟩ = some (.slice tp t.ty.args.length tc) ∧ w'.cell? ⟨w.heap.size, 6, none⟩ = some (.int .i64 t.res.kind) ∧ w'.cell? ⟨w.heap.size, 7, none⟩ = some (.slice rp t.res.args.length rc) ∧ w'.cell? ⟨w.heap.size, 8, none⟩ = some (.slice (some ⟨b, o, none⟩) t.args.length c) ∧ w'.cell? ⟨b, o + k * 9, none⟩ = some (.int .i64 t.args[k].kind) ∧ w'.cell? ⟨b, o + k * 9 + 1, none⟩ = some (.string t.args[k].name) ∧ w'.cell? ⟨b, o + k * 9 + 2, none⟩ = some (.string t.args[k].other) ∧ w'.cell? ⟨b, o + k * 9 + 3, none⟩ = some (.int .i64 t.args[k].n) ∧ w'.cell? ⟨b, o + k * 9 + 4, none⟩ = some (.int .i64 t.args[k].ty.kind) ∧ w'.cell? ⟨b, o + k * 9 + 5, none⟩ = some (.slice tp2 t.args[k].ty.args.length tc2) ∧ w'.cell? ⟨b, o + k * 9 + 6, none⟩ = some (.int .i64 t.args[k].res.kind) ∧ w'.cell? ⟨b, o + k * 9 + 7, none⟩ = some (.slice rp2 t.args[k].res.args.length rc2) ∧ w'.cell? ⟨b, o + k * 9 + 8, none⟩ = some (.slice p2 t.args[k].args.length c2) ∧ Below wr.heap.size wr w')
          (first
            | (go_keep; done)
            | exact ⟨d0, d1, d2, d3, d4, d5, d6, d7, d8, g0, g1, g2, g3, g4, g5, g6, g7, g8, (Below.refl _ _).drew⟩
            | exact keep18 hb7 (by assumption)
            | exact keep18 hb6 (by assumption))
          (first
            | (go_at_call 101; refine (nextS_any t tp tc rp rc (some ⟨b, o, none⟩) c n _).mono ?_; rintro e w6 ⟨rfl, hb6⟩)
            | (go_at_call 54; refine (HC.out _ ((Below.refl _ _).drew.trans hb6)).mono ?_; rintro e w7 ⟨r, hr, rfl, hb7⟩)
            | (go_at_call 111; refine (max_any _ _ _).mono ?_; rintro e w8 ⟨rfl, rfl⟩))
        rename_i hH
        have hb2 := hH.2.2.2.2.2.2.2.2.2.2.2.2.2.2.2.2.2.2
        have HB2 := Lib.hid (HBR.out.trans (hb2.mono HBR.out.size))
        clear hH hb6 hb7 g0 g1 g2 g3 g4 g5 g6 g7 g8 hb2
        go_wp2_with fail
        go_roundw
        case rel => exact ⟨k + 1, by omega, by go_num, by rw [HHT.out], HB2.out⟩
        case measure => simp [intOf]; omega
      · obtain rfl : k = t.args.length := by omega
        rw [List.take_length]
        go_wp2_with fail
        go_ret
        exact ⟨_, HHE.out.symm, rfl, box_rest HBR.out⟩
variable {t : Tm} {v : Value} {w : World}
set_option maxRecDepth 100000 in
theorem levS_at (n : Int) (h : TM w C t v) (hn : t.wt ≤ 2097152) : Calls Tryz.prog 10 #[v, .int .i64 n] w (Tells (t.IsT ∧ t.lvOk n) w) := by
  have HN := Lib.hid hn
  obtain ⟨tp, tc, rp, rc, p, c, rfl, hT⟩ := h
  have HT := Lib.hid hT
  have HX0 := Lib.hid (Bx9.new w t tp tc rp rc p c 29)
  have HB0 := Lib.hid (al_below w (.cells (tmC t tp tc rp rc p c) 29))
  clear hT hn
  go_enter Tryz.func10, Tryz.ntmps10
  go_wp2_with fail
  refine (isTM_any _ _ (Nat.le_refl _) (HT.out.stays (.of_below HB0.out)) HN.out).mono ?_
  rintro e w1 ⟨r, hr, rfl, hb1⟩
  have HR := Lib.hid hr
  have HB1 := Lib.hid (HB0.out.trans (hb1.mono HB0.out.size))
  obtain ⟨g0, g1, g2, g3, g4, g5, g6, g7, g8⟩ := HX0.out.keep hb1
  clear hr hb1
  cases r with
  | false =>
    go_wp2_with fail
    go_ret
    exact ⟨false, by simp only [Bool.false_eq_true, false_iff]; exact fun h => (by have := HR.out.2 h.1; cases this), rfl, HB1.out⟩
  | true =>
    go_wp2_with fail
    refine (l8Ok_any _ n _ (Nat.le_refl _) (HT.out.stays (.of_below HB1.out)) HN.out).mono ?_
    rintro e w2 ⟨r2, hr2, rfl, hb2⟩
    have HR2 := Lib.hid hr2
    have HB2 := Lib.hid (HB1.out.trans (hb2.mono HB1.out.size))
    clear hr2 hb2
    go_wp2_with fail
    go_ret
    exact ⟨r2, by rw [HR2.out]; exact ⟨fun h => ⟨HR.out.1 (by trivial), h⟩, fun h => h.2⟩, rfl, HB2.out⟩
set_option maxRecDepth 100000 in
theorem plnS_at (h : TM w C t v) (hn : t.wt ≤ 2097152) : Calls Tryz.prog 12 #[v] w (Tells (t.IsT ∧ t.pln) w) := by
  have HN := Lib.hid hn
  obtain ⟨tp, tc, rp, rc, p, c, rfl, hT⟩ := h
  have HT := Lib.hid hT
  have HX0 := Lib.hid (Bx9.new w t tp tc rp rc p c 29)
  have HB0 := Lib.hid (al_below w (.cells (tmC t tp tc rp rc p c) 29))
  clear hT hn
  go_enter Tryz.func12, Tryz.ntmps12
  go_wp2_with fail
  refine (isTM_any _ _ (Nat.le_refl _) (HT.out.stays (.of_below HB0.out)) HN.out).mono ?_
  rintro e w1 ⟨r, hr, rfl, hb1⟩
  have HR := Lib.hid hr
  have HB1 := Lib.hid (HB0.out.trans (hb1.mono HB0.out.size))
  obtain ⟨g0, g1, g2, g3, g4, g5, g6, g7, g8⟩ := HX0.out.keep hb1
  clear hr hb1
  cases r with
  | false =>
    go_wp2_with fail
    go_ret
    exact ⟨false, by simp only [Bool.false_eq_true, false_iff]; exact fun h => (by have := HR.out.2 h.1; cases this), rfl, HB1.out⟩
  | true =>
    go_wp2_with fail
    refine (l8Plain_any _ _ (Nat.le_refl _) (HT.out.stays (.of_below HB1.out)) HN.out).mono ?_
    rintro e w2 ⟨r2, hr2, rfl, hb2⟩
    have HR2 := Lib.hid hr2
    have HB2 := Lib.hid (HB1.out.trans (hb2.mono HB1.out.size))
    clear hr2 hb2
    go_wp2_with fail
    go_ret
    exact ⟨r2, by rw [HR2.out]; exact ⟨fun h => ⟨HR.out.1 (by trivial), h⟩, fun h => h.2⟩, rfl, HB2.out⟩
set_option maxRecDepth 100000 in
theorem genS_at (n : Int) (h : TM w C t v) (hn : t.wt ≤ 2097152) : Calls Tryz.prog 14 #[v, .int .i64 n] w (Tells ((t.IsT ∧ t.lvOk n) ∧ t.made n) w) := by
  have HN := Lib.hid hn
  obtain ⟨tp, tc, rp, rc, p, c, rfl, hT⟩ := h
  have HT := Lib.hid hT
  have HX0 := Lib.hid (Bx9.new w t tp tc rp rc p c 29)
  have HB0 := Lib.hid (al_below w (.cells (tmC t tp tc rp rc p c) 29))
  clear hT hn
  go_enter Tryz.func14, Tryz.ntmps14
  go_wp2_with fail
  refine (levS_at n ⟨_, _, _, _, _, _, rfl, HT.out.stays (.of_below HB0.out)⟩ HN.out).mono ?_
  rintro e w1 ⟨r, hr, rfl, hb1⟩
  have HR := Lib.hid hr
  have HB1 := Lib.hid (HB0.out.trans (hb1.mono HB0.out.size))
  obtain ⟨g0, g1, g2, g3, g4, g5, g6, g7, g8⟩ := HX0.out.keep hb1
  clear hr hb1
  cases r with
  | false =>
    go_wp2_with fail
    go_ret
    exact ⟨false, by simp only [Bool.false_eq_true, false_iff]; exact fun h => (by have := HR.out.2 h.1; cases this), rfl, HB1.out⟩
  | true =>
    go_wp2_with fail
    refine (l8Made_any _ n _ (Nat.le_refl _) (HT.out.stays (.of_below HB1.out)) HN.out).mono ?_
    rintro e w2 ⟨r2, hr2, rfl, hb2⟩
    have HR2 := Lib.hid hr2
    have HB2 := Lib.hid (HB1.out.trans (hb2.mono HB1.out.size))
    clear hr2 hb2
    go_wp2_with fail
    go_ret
    exact ⟨r2, by rw [HR2.out]; exact ⟨fun h => ⟨HR.out.1 (by trivial), h⟩, fun h => h.2⟩, rfl, HB2.out⟩
def HighIs (t : Tm) (r : Int) : Prop := ((t.IsT ∧ t.lvOk 0) ∧ r = t.high 0) ∨ (¬ (t.IsT ∧ t.lvOk 0) ∧ r = -1)
theorem HighIs.one {t : Tm} {a b : Int} (h : HighIs t a) (k : HighIs t b) : a = b := by
  rcases h with ⟨h1, rfl⟩ | ⟨h1, rfl⟩ <;> rcases k with ⟨k1, rfl⟩ | ⟨k1, rfl⟩
  · rfl
  · exact absurd h1 k1
  · exact absurd k1 h1
  · rfl
set_option maxRecDepth 100000 in
theorem highS_at (h : TM w C t v) (hn : t.wt ≤ 2097152) : Calls Tryz.prog 18 #[v] w (IntRet (HighIs t) w) := by
  have HN := Lib.hid hn
  obtain ⟨tp, tc, rp, rc, p, c, rfl, hT⟩ := h
  have HT := Lib.hid hT
  have HX0 := Lib.hid (Bx9.new w t tp tc rp rc p c 29)
  have HB0 := Lib.hid (al_below w (.cells (tmC t tp tc rp rc p c) 29))
  clear hT hn
  go_enter Tryz.func18, Tryz.ntmps18
  go_wp2_with fail
  refine (levS_at 0 ⟨_, _, _, _, _, _, rfl, HT.out.stays (.of_below HB0.out)⟩ HN.out).mono ?_
  rintro e w1 ⟨r, hr, rfl, hb1⟩
  have HR := Lib.hid hr
  have HB1 := Lib.hid (HB0.out.trans (hb1.mono HB0.out.size))
  obtain ⟨g0, g1, g2, g3, g4, g5, g6, g7, g8⟩ := HX0.out.keep hb1
  clear hr hb1
  cases r with
  | false =>
    go_wp2_with fail
    go_ret
    exact ⟨_, Or.inr ⟨fun h => (by have := HR.out.2 h; cases this), rfl⟩, rfl, HB1.out⟩
  | true =>
    go_wp2_with fail
    refine (l8High_any _ 0 _ (Nat.le_refl _) (HT.out.stays (.of_below HB1.out)) HN.out).mono ?_
    rintro e w2 ⟨r2, rfl, rfl, hb2⟩
    have HB2 := Lib.hid (HB1.out.trans (hb2.mono HB1.out.size))
    clear hb2
    go_wp2_with fail
    go_ret
    exact ⟨_, Or.inl ⟨HR.out.1 (by trivial), rfl⟩, rfl, HB2.out⟩
end Go.Proofs.YtfeijijeohfpgaaGreatDoor
namespace Go.Proofs.YtfeijijeohfpgaaGreatDoor
open Go Go.RowKit Go.Shelf
attribute [local go_sem] Oper.semAt_some
set_option maxRecDepth 100000 in
set_option maxHeartbeats 2000000 in
theorem highI_any {C : Nat → Prop} {t : Tm} {v : Value} {w : World} (hka : KA w) (h : TM w C t v) (hn : t.wt ≤ 2097152) :
    Calls Tryz.prog 17 #[v] w (IntRet (HighIs t) w) := by
  have hnt : t.nodes ≤ 2097153 := by have := t.nodes_wt; omega
  have HKA := Lib.hid (fun (w' : World) (hb : Below w.heap.size w w') => hka.below hb)
  have HWT := Lib.hid hn
  clear hka hn
  obtain ⟨tp, tc, rp, rc, p, c, rfl, hT⟩ := h
  have HT := Lib.hid (hT.mono (C' := (· < w.heap.size)) (fun _ _ h => h))
  clear hT
  refine (callsIn_wide (n := 3)).1 ?_
  refine callsIn_of_wp_marks Tryz.func17 rfl trivial ?_ rfl
  simp only [Tryz.ntmps17, List.size_toArray, List.length_cons, List.length_nil, Nat.reduceAdd, Nat.reduceSub, Array.replicate_succ, Array.replicate_zero, List.push_toArray, List.append_toArray, List.nil_append, List.cons_append]
  gi_wp2_with fail
  obtain ⟨w0, hw0, hs0, hb0, hk0⟩ := box_new w (tmC t tp tc rp rc p c) 29
  rw [hw0]
  refine ⟨trivial, ?_⟩
  refine (callsIn_wide.2 (levI_any 0 (HKA.out _ hb0) ⟨_, _, _, _, _, _, rfl, HT.out.stays (.of_below hb0)⟩ HWT.out)).mono ?_
  rintro e w1 ⟨r, hr, rfl, hb1⟩
  have hk01 := (hb1.block _ (by omega)).trans hk0
  have hb01 : Below w.heap.size w w1 := hb0.trans (hb1.mono hb0.size)
  have hs1 := hb1.size
  have HR := Lib.hid hr
  have HB01 := Lib.hid hb01
  clear hr hb1 hw0 hk0 hb0
  cases r with
  | false =>
    clear hk01 hb01
    gi_wp2_with fail
    exact ⟨_, results_tmp rfl _ _ _, _, Or.inr ⟨fun h => (by have := HR.out.2 h; cases this), rfl⟩, rfl, HB01.out⟩
  | true =>
  have HIS := Lib.hid (HR.out.1 (by trivial))
  have hal := al_below w1 (.cells #[.int .i64 0] 3)
  clear hal
  gi_wp2_with fail
  obtain ⟨w2, hw2, hs2, hb2, hk2⟩ := box_new w1 #[.int .i64 0] 3
  rw [hw2]
  refine ⟨trivial, ?_⟩
  refine (callsIn_wide.2 (nwl_any w.heap.size 0 0 w2)).mono ?_
  rintro e wl ⟨Bn, Be, rfl, hI, hbw⟩
  have hsz := hbw.size
  have hb02 : Below w.heap.size w w2 := hb01.trans (hb2.mono hb01.size)
  have hbl : Below w.heap.size w wl := hb02.trans (hbw.mono hb02.size)
  have k1 : wl.heap[w1.heap.size]? = some (.cells #[.int .i64 0] 3 (0, 0)) := (hbw.block _ (by omega)).trans hk2
  have HSL : TermAt wl (fun z => z < w.heap.size + 1) t w.heap.size 0 := boxAt ((hbw.block _ (by omega)).trans ((hb2.block _ (by omega)).trans hk01)) (by omega) ((HT.out.stays (.of_below hbl)).mono (fun z hz _ => by omega))
  clear hk2 hb2 hw2 hb02 hk01 hb01
  gi_wp2_with fail
  refine rangeE_law (E := fun _ => False) (F := Fence.wide) (n := 3) rfl (by omega) (gf := 94) (lb := #[.pointer (some ⟨Bn, 0, none⟩), .pointer (some ⟨Be, 0, none⟩)]) rfl trivial (enters_of Tryz.func94 (by kernel_rfl) rfl)
    (B0 := fun b => b = w1.heap.size) (levels_seq (fun _ => False) hI HSL HWT.out (Below.refl _ _) (fun b h => by omega) (fun _ h => h.elim)) (fun _ h => h.elim) (fun _ => rfl) (fun b h h2 => by omega) (fun b h => by omega) (fun b h => by omega)
    (fun pre B N W => (∀ z, B z ↔ z = w1.heap.size) ∧ (∀ z, ¬ N z) ∧ W.cell? ⟨w1.heap.size, 0, none⟩ = some (.int .i64 (topL 0 pre)) ∧ W.frozen? ⟨w1.heap.size, 0, none⟩ = false ∧ w1.heap.size < W.heap.size ∧ Below w.heap.size w W)
    (fun _ _ _ _ _ => False)
    (fun pre B N A A' h hk => ⟨h.1, h.2.1, (hk.1.cell (by show w1.heap.size < _; omega)).trans h.2.2.1, (hk.1.frozen (by show w1.heap.size < _; omega)).trans h.2.2.2.1, Nat.lt_of_lt_of_le h.2.2.2.2.1 hk.1.size, h.2.2.2.2.2.trans (hk.1.mono (by omega))⟩)
    (fun _ _ _ _ _ _ h _ => h)
    (fun x Y A A' l r hl hg hr hA => goodL_loop hg hA (by omega)) (fun pre B N A h z hz => by rw [(h.1 z).1 hz]; exact h.2.2.2.2.1) (fun x Y A z hg hz => absurd hz (hg.2 z)) ⟨fun _ => Iff.rfl, fun _ h => h, cell_of_blk k1 0, unfrozen_of_blk k1 0, (Array.getElem?_eq_some_iff.1 k1).1, hbl⟩
    (fun x s a' W => a' = { tmps := #[tmV t tp tc rp rc p c, .pointer (some ⟨w.heap.size, 0, none⟩), .int .i64 0, .pointer (some ⟨w1.heap.size, 0, none⟩), undef, .int .i64 x.1.2,
      tmV t tp tc rp rc p c, .bool true, .bool false, iterL Bn Be, .pointer (some ⟨x.2.1, x.2.2, none⟩), .int .i64 x.1.2, undef, undef, undef, undef], defers := [] })
    (fun x s a' W l r o h hl => h) ?assign ?body ?done ?stop
  case assign =>
    rintro l ⟨⟨x, lv⟩, ⟨b1, o1⟩⟩ Y W K hG hK
    have HK := Lib.hid hK
    clear hK
    gi_wp2
    exact HK.out _ _ (Below.refl _ _) (by simp)
  case body =>
    rintro l pre ⟨⟨x, lv⟩, ⟨b1, o1⟩⟩ s a' Y B N W ⟨hBo, hNo, r2, rz, hlt, hB⟩ hpre hG hYB hs rfl hlp hBl
    have HBO := Lib.hid hBo
    have HB := Lib.hid hB
    have HR := Lib.hid r2
    have HZ := Lib.hid rz
    have HLT := Lib.hid hlt
    clear hBo hB hpre hG hYB hs hlp hBl k1 HSL hbl hbw hI hNo hlt
    gi_wp2_with fail
    all_goals
      refine ⟨B, fun _ => False, Grew.refl (fun b hb => ?_), fun z hz => hz.elim, Holds.setCell (Holds.refl _ _) ⟨w1.heap.size, 0, none⟩ ((HBO.out _).2 rfl) _, HBO.out, fun _ h => h, ?_, by rw [World.frozen?_setCell]; exact HZ.out, by have := HLT.out; simpa [World.setCell] using this, HB.out.setCell (p := ⟨w1.heap.size, 0, none⟩) (by show w.heap.size ≤ w1.heap.size; omega) _⟩
      · rw [(HBO.out b).1 hb]
        have := HLT.out
        simpa [World.setCell] using this
      · show (World.setCell W ⟨w1.heap.size, 0, none⟩ _).cell? ⟨w1.heap.size, 0, none⟩ = some (.int .i64 (topL 0 (pre ++ [(x, lv)])))
        rw [topL_snoc]
        refine (World.cell?_setCell_same' _ _ _ (by rw [HR.out]; rfl)).trans ?_
        congr 2
        all_goals
          show _ = max (topL 0 pre) lv
          omega
  case done =>
    rintro D B N W hD hne ⟨hBo, hNo, r0, _, _, hB⟩ hK
    have HB := Lib.hid hB
    have HS := Lib.hid (high_0 t)
    clear hB k1 HSL hbl hbw hI hBo hNo hne
    gi_wp2_with fail
    refine ⟨by simp, .inl ⟨_, _, rfl, run_takeDeferred hK, ?_⟩⟩
    exact ⟨_, results_tmp rfl _ _ _, _, Or.inl ⟨HIS.out, HS.out.symm⟩, rfl, HB.out.trans (below_putObj _ _ _ _ (by omega))⟩
  case stop =>
    rintro D c pre B N W _ _ _ h _
    exact h.elim
attribute [local go_sem] Oper.semAt_some
set_option maxRecDepth 100000 in
set_option maxHeartbeats 2000000 in
theorem plainI_any {C : Nat → Prop} {t : Ty} {v : Value} {w : World} (h : TT w C t v) (hn : nodesS t.args ≤ 2097152) :
    Calls Tryz.prog 109 #[v] w (BoolRet (fun r => r = t.plain) w) := by
  have HT := Lib.hid (fun w' (hb : Below w.heap.size w w') => h.keep hb)
  obtain ⟨s, rfl, hS⟩ := h
  obtain ⟨p, c, rfl⟩ := hS.form
  have HS := Lib.hid (hS.mono (C' := (· < w.heap.size)) (fun b _ h => h))
  clear hS
  have hnt : t.nodes ≤ 2097153 := by have := t.nodes_eq; omega
  have hb0 := ((Below.refl w.heap.size w).alloc (Nat.le_refl _) (Obj.cells #[.int .i64 t.kind, .slice p t.args.length c] 26)).alloc (by simp) (Obj.cells #[.bool false] 4)
  have hk0 : ((w.alloc (.cells #[.int .i64 t.kind, .slice p t.args.length c] 26)).alloc (.cells #[.bool false] 4)).heap[w.heap.size]? = some (.cells #[.int .i64 t.kind, .slice p t.args.length c] 26 (0, 0)) := by
    rw [Below.heap_alloc _ _ _ (by simp)]; exact blk_new _ _
  have hk1 : ((w.alloc (.cells #[.int .i64 t.kind, .slice p t.args.length c] 26)).alloc (.cells #[.bool false] 4)).heap[w.heap.size + 1]? = some (.cells #[.bool false] 4 (0, 0)) := by
    have := blk_new (w.alloc (.cells #[.int .i64 t.kind, .slice p t.args.length c] 26)) (.cells #[.bool false] 4)
    rwa [World.size_alloc] at this
  have HB0 := Lib.hid hb0
  have HK0 := Lib.hid hk0
  have HK1 := Lib.hid hk1
  clear hb0 hk0 hk1
  refine (callsIn_wide (n := 2)).1 ?_
  refine callsIn_of_wp_marks Tryz.func109 rfl trivial ?_ rfl
  simp only [Tryz.ntmps109, List.size_toArray, List.length_cons, List.length_nil, Nat.reduceAdd, Nat.reduceSub, Array.replicate_succ, Array.replicate_zero, List.push_toArray, List.append_toArray, List.nil_append, List.cons_append]
  gi_wp2_with fail
  refine ⟨trivial, ?_⟩
  refine (callsIn_wide.2 (validI_any (HT.out _ HB0.out) hn)).mono ?_
  rintro e w1 ⟨r, hr, rfl, hb1⟩
  have HR := Lib.hid hr
  have hk0 := (hb1.block _ (by simp; omega)).trans HK0.out
  have hk1 := (hb1.block _ (by simp)).trans HK1.out
  have HB1 := Lib.hid (HB0.out.trans (hb1.mono HB0.out.size))
  have hsz1 : w.heap.size + 2 ≤ w1.heap.size := by have := hb1.size; simp at this; omega
  have c0 := cell_of_blk hk0 0
  have c1 := cell_of_blk hk0 1
  have r0 := cell_of_blk hk1 0
  have rz := unfrozen_of_blk hk1 0
  simp only [List.getElem?_toArray, List.getElem?_cons_zero, List.getElem?_cons_succ] at c0 c1 r0
  have HK1' := Lib.hid hk1
  clear hr hb1 hk0 hk1
  cases r with
  | false =>
    have hcc := World.cell?_setCell_same' w1 ⟨w.heap.size + 1, 0, none⟩ (.bool false) (by rw [r0]; rfl)
    gi_wp2_with fail
    refine ⟨.bool false, ?_, _, by rw [Ty.plain, ← HR.out]; rfl, rfl, HB1.out.setCell (p := ⟨w.heap.size + 1, 0, none⟩) (by show w.heap.size ≤ w.heap.size + 1; omega) _⟩
    rw [results_cell1 rfl]
    go_simp
  | true =>
    have HK := Lib.hid (fun (W : World) (hb : Below w1.heap.size w1 W) => tnT_any (t := t) (p := p) (c := c) (C := (· < w.heap.size)) ((HS.out.keep HB1.out).stays (.of_below hb)))
    gi_wp2_with fail
    refine ⟨trivial, ?_⟩
    refine (callsIn_wide.2 (HK.out _ (Below.refl _ _))).mono ?_
    rintro e wl ⟨Bt, Bp, rfl, hI, hbw, hBt, hBp⟩
    have hsz := hbw.size
    have hbl : Below w.heap.size w wl := HB1.out.trans (hbw.mono HB1.out.size)
    have k1 : wl.heap[w.heap.size + 1]? = some (.cells #[.bool false] 4 (0, 0)) := (hbw.block _ (by omega)).trans HK1'.out
    have hbp := (Array.getElem?_eq_some_iff.1 hI.bp).1
    have HSL : TS wl (fun b => b < w.heap.size ∨ b = Bp) t.args (.slice p t.args.length c) := (HS.out.keep hbl).mono (fun z hz _ => Or.inl hz)
    gi_wp2_with fail
    refine range_law (F := Fence.wide) (n := 2) rfl (by omega) (gf := 213) (lb := #[.pointer (some ⟨Bt, 0, none⟩), .pointer (some ⟨Bp, 0, none⟩)]) rfl trivial (enters_of Tryz.func213 (by kernel_rfl) rfl)
      (nodesT_seq2 hI HSL hnt (Below.refl _ _) (fun b => b = w.heap.size + 1) (fun b h => by omega) (fun b h => by omega) (Or.inr rfl)) (fun _ => rfl) (fun b h => by omega)
      (fun pre W => W.heap[w.heap.size + 1]? = some (.cells #[.bool false] 4 (0, 0)) ∧ NoCode pre ∧ Below w.heap.size w W)
      (fun j pre W => j = .ret ∧ W.cell? ⟨w.heap.size + 1, 0, none⟩ = some (.bool false) ∧ t.plain = false ∧ Below w.heap.size w W)
      (fun pre A B h hb => ⟨(hb.block _ (by omega)).trans h.1, h.2.1, h.2.2.trans (hb.mono (by omega))⟩)
      (fun j pre A B h hb => ⟨h.1, (hb.cell (by show w.heap.size + 1 < _; omega)).trans h.2.1, h.2.2.1, h.2.2.2.trans (hb.mono (by omega))⟩)
      (goodT_keep (fun b h => by omega)) ⟨k1, (fun e he => absurd he (List.not_mem_nil)), hbl⟩
      (fun x a' W => ∃ bx, W.heap[bx]? = some (.cells x.2.1.cells 26 (0, 0)) ∧ a' = { tmps := #[.agg #[.int .i64 t.kind, .slice p t.args.length c], .pointer (some ⟨w.heap.size, 0, none⟩), .pointer (some ⟨w.heap.size + 1, 0, none⟩), .pointer (some ⟨bx, 0, none⟩),
        .agg #[.int .i64 t.kind, .slice p t.args.length c], .bool true, .bool false, .agg #[.int .i64 t.kind, .slice p t.args.length c], iterT Bt Bp, x.2.1, .int .i64 (x.2.2 : Nat), undef, undef], defers := [] })
      (fun x a' W l r o h hl => by
        obtain ⟨bx, h2, h3⟩ := h
        exact ⟨bx, (World.putObj_heap_other (fun e => by rw [e, hl] at h2; cases h2)).trans h2, h3⟩) ?assign ?body ?done ?stop
    case assign =>
      rintro l ⟨x, v, d⟩ W K hG hK
      have hG : TT W _ x v := hG
      obtain ⟨s', rfl, hG'⟩ := hG
      obtain ⟨p', c', rfl⟩ := hG'.form
      have HK := Lib.hid hK
      clear hK
      gi_wp2
      exact HK.out _ _ ((Below.refl _ _).alloc (Nat.le_refl _) _) ⟨W.heap.size, blk_new _ _, by simp⟩
    case body =>
      rintro l pre ⟨x, v, d⟩ a' W ⟨hr, hso, hB⟩ hpre hG ⟨bx, hbx, rfl⟩
      have hpre : pre ++ [(x, d)] <+: walkT t 1 := hpre
      have hbx : W.heap[bx]? = some (.cells v.cells 26 (0, 0)) := hbx
      have hG : TT W _ x v := hG
      obtain ⟨s', rfl, hG'⟩ := hG
      obtain ⟨p', c', rfl⟩ := hG'.form
      simp only [Value.cells] at hbx
      have x0 := cell_of_blk hbx 0
      have x1 := cell_of_blk hbx 1
      simp only [List.getElem?_toArray, List.getElem?_cons_zero, List.getElem?_cons_succ] at x0 x1
      have HG := Lib.hid hG'
      have HR1 := Lib.hid hr
      have HB1 := Lib.hid hB
      have HSO := Lib.hid hso
      have HP := Lib.hid hpre
      clear hso hpre hr hbx hB k1 hG' HSL hbl hbw c0 c1 r0 rz hI
      gi_wp2_with fail
      refine ⟨trivial, rfl, ?_⟩
      refine (CallsIn.inRound l (callsIn_wide.2 (isCode_any (t := x) ⟨_, rfl, HG.out⟩))).mono ?_
      rintro e W2 ⟨b, hb, rfl, hb2⟩
      have l2 := (Array.getElem?_eq_some_iff.1 HR1.out).1
      have HR2 := Lib.hid ((hb2.block _ l2).trans HR1.out)
      have r2 := cell_of_blk HR2.out 0
      have rz := unfrozen_of_blk HR2.out 0
      simp only [List.getElem?_toArray, List.getElem?_cons_zero] at r2
      have hH2 : Holds (fun b => b = w.heap.size + 1) W W2 := .of_below hb2
      have hB2 : Below w.heap.size w W2 := HB1.out.trans (hb2.mono HB1.out.size)
      have HBB := Lib.hid hb
      have HH2 := Lib.hid hH2
      have HB2 := Lib.hid hB2
      clear hb hb2 hH2 hB2 x0 x1 l2
      cases b with
      | true =>
        have hcc := World.cell?_setCell_same' W2 ⟨w.heap.size + 1, 0, none⟩ (.bool false) (by rw [r2]; rfl)
        have HCC := Lib.hid hcc
        clear hcc
        gi_wp2_with fail
        exact ⟨HH2.out.setCell ⟨w.heap.size + 1, 0, none⟩ rfl _, rfl, HCC.out, not_plain_at HP.out HBB.out.symm, HB2.out.setCell (p := ⟨w.heap.size + 1, 0, none⟩) (by show w.heap.size ≤ w.heap.size + 1; omega) _⟩
      | false =>
        gi_wp2_with fail
        exact ⟨HH2.out, HR2.out, HSO.out.next HBB.out.symm, HB2.out⟩
    case done =>
      rintro D W hD ⟨hr, hso, hB⟩ hK
      have r0 := cell_of_blk hr 0
      have rz := unfrozen_of_blk hr 0
      simp only [List.getElem?_toArray, List.getElem?_cons_zero] at r0
      have HV := Lib.hid (plain_of HR.out.symm hso)
      have HB := Lib.hid hB
      have hK' : (W.setCell ⟨w.heap.size + 1, 0, none⟩ (.bool true)).heap[D]? = some (.deferred (some [])) := (Below.heap_setCell _ _ _ _ (by show D ≠ w.heap.size + 1; omega)).trans hK
      clear hso hB hr hK k1 HSL hbl hbw hI
      gi_wp2_with fail
      refine ⟨by simp, .inl ⟨_, _, rfl, run_takeDeferred hK', ?_⟩⟩
      have hc := (World.cell?_of_block (a := ⟨w.heap.size + 1, 0, none⟩) (w' := (W.setCell ⟨w.heap.size + 1, 0, none⟩ (.bool true)).putObj D (.deferred none)) (World.putObj_heap_other (by show w.heap.size + 1 ≠ D; omega))).trans (World.cell?_setCell_same' W ⟨w.heap.size + 1, 0, none⟩ (.bool true) (by rw [r0]; rfl))
      refine ⟨.bool true, ?_, _, HV.out.symm, rfl, (HB.out.setCell (p := ⟨w.heap.size + 1, 0, none⟩) (by show w.heap.size ≤ w.heap.size + 1; omega) _).trans (below_putObj _ _ _ _ (by omega))⟩
      rw [results_cell1 rfl]
      go_simp
    case stop =>
      rintro D c pre W hD hpre ⟨rfl, hr, hv, hB⟩ hK
      have HB := Lib.hid hB
      have HV := Lib.hid hv
      clear hv hB k1 HSL hbl hbw hI
      gi_wp2_with fail
      refine ⟨by simp, .inl ⟨_, _, rfl, run_takeDeferred hK, ?_⟩⟩
      have hc := (World.cell?_of_block (a := ⟨w.heap.size + 1, 0, none⟩) (w' := W.putObj D (.deferred none)) (World.putObj_heap_other (by show w.heap.size + 1 ≠ D; omega))).trans hr
      refine ⟨.bool false, ?_, _, HV.out.symm, rfl, HB.out.trans (below_putObj _ _ _ _ (by omega))⟩
      rw [results_cell1 rfl]
      go_simp
attribute [local go_sem] Oper.semAt_some
set_option maxRecDepth 100000 in
set_option maxHeartbeats 1000000 in
theorem stageI_any (t : Tm) (tp : Option Addr) (tc : Nat) (rp : Option Addr) (rc : Nat) (p : Option Addr) (c : Nat) (w : World) :
    Calls Tryz.prog 48 #[tmV t tp tc rp rc p c] w (Tells (t.kind = 10 ∨ t.kind = 11 ∨ t.kind = 12 ∨ t.kind = 13) w) := by
  have HB0 := Lib.hid (al_below w (.cells (tmC t tp tc rp rc p c) 29))
  obtain ⟨g0, _, _, _, _, _, _, _, _⟩ := Bx9.new w t tp tc rp rc p c 29
  have HW := Lib.hid (show ((t.kind == 10) = true ∨ (t.kind == 10) = false ∧ (t.kind == 11) = true ∨ (t.kind == 10) = false ∧ (t.kind == 11) = false ∧ (t.kind == 12) = true ∨ (t.kind == 10) = false ∧ (t.kind == 11) = false ∧ (t.kind == 12) = false ∧ (t.kind == 13) = true) ∧ (t.kind = 10 ∨ t.kind = 11 ∨ t.kind = 12 ∨ t.kind = 13) ∨ ((t.kind == 10) = false ∧ (t.kind == 11) = false ∧ (t.kind == 12) = false ∧ (t.kind == 13) = false) ∧ ¬ (t.kind = 10 ∨ t.kind = 11 ∨ t.kind = 12 ∨ t.kind = 13) by
    simp only [beq_iff_eq, beq_eq_false_iff_ne]
    omega)
  rcases HW.out with ⟨⟨t1⟩ | ⟨t1, t2⟩ | ⟨t1, t2, t3⟩ | ⟨t1, t2, t3, t4⟩, hk⟩ | ⟨⟨t1, t2, t3, t4⟩, hk⟩
  all_goals
    have HK := Lib.hid hk
    clear hk
    go_enter Tryz.func48, Tryz.ntmps48
    go_wp2_with fail
    go_ret
    first
      | exact ⟨true, by simp only [true_iff]; exact HK.out, rfl, HB0.out⟩
      | exact ⟨false, by simp only [Bool.false_eq_true, false_iff]; exact HK.out, rfl, HB0.out⟩
def Tm.pty (t : Tm) : Prop := (t.kind = 6 → t.ty.plain = true) ∧ (t.kind = 9 → t.ty.plain = true ∧ t.res.plain = true)
theorem pty_iff {t : Tm} (h : t.NodeOk) : t.pty ↔ t.ty.has 4 = false ∧ t.res.has 4 = false := by
  have hz : ∀ {x : Ty}, zeroT x → x.has 4 = false := fun {x} hz => by
    obtain ⟨h1, h2⟩ := hz
    obtain ⟨k, ts⟩ := x
    simp only [Ty.kind, Ty.args] at h1 h2
    obtain rfl := List.eq_nil_of_length_eq_zero h2
    subst h1
    simp [Ty.has, hasS]
  have hp : ∀ {x : Ty}, x.valid = true → (x.plain = true ↔ x.has 4 = false) := fun {x} hv => by
    unfold Ty.plain; rw [hv]; simp
  have hf := h.1
  unfold Tm.pty
  by_cases h6 : t.kind = 6
  · have hv := hf.ty1.1 (Or.inl h6)
    have h9 : ¬ t.kind = 9 := by omega
    have hr := (hf.res2.resolve_left h9)
    simp only [h6, hp hv, hz hr]
    simp
  · by_cases h9 : t.kind = 9
    · have hv := hf.ty1.1 (Or.inr h9)
      have hr := hf.res1.1 h9
      simp only [h9, hp hv, hp hr]
      simp
    · have h1 := hz (hf.ty2.resolve_left (by omega))
      have h2 := hz (hf.res2.resolve_left h9)
      simp [h6, h9, h1, h2]
set_option maxRecDepth 100000 in
set_option maxHeartbeats 1000000 in
theorem ptyI_any {C : Nat → Prop} {t : Tm} {tp : Option Addr} {tc : Nat} {rp : Option Addr} {rc : Nat} {p : Option Addr} {c : Nat} {w : World} (hT : TM' w C t tp tc rp rc p c) (hn : t.wt ≤ 2097152) :
    Calls Tryz.prog 49 #[tmV t tp tc rp rc p c] w (Tells t.pty w) := by
  have HT := Lib.hid hT
  have hwe := t.wt_eq
  have HN1 := Lib.hid (show nodesS t.ty.args ≤ 2097152 by omega)
  have HN2 := Lib.hid (show nodesS t.res.args ≤ 2097152 by omega)
  have HX0 := Lib.hid (Bx9.new w t tp tc rp rc p c 29)
  have HB0 := Lib.hid (al_below w (.cells (tmC t tp tc rp rc p c) 29))
  clear hT hn hwe
  obtain ⟨g0, _, _, _, g4, g5, g6, g7, _⟩ := HX0.out
  by_cases h6 : t.kind = 6
  · have t1 : (t.kind == 6) = true := by simp [h6]
    have HK := Lib.hid h6
    clear h6
    go_enter Tryz.func49, Tryz.ntmps49
    go_wp2_with fail
    refine (plainI_any (C := C) (t := t.ty) ⟨_, rfl, HT.out.ty.stays (.of_below HB0.out)⟩ HN1.out).mono ?_
    rintro e w1 ⟨r, hr, rfl, hb1⟩
    have HR := Lib.hid hr
    have HB1 := Lib.hid (HB0.out.trans (hb1.mono HB0.out.size))
    clear hr hb1
    go_wp2_with fail
    go_ret
    refine ⟨r, ?_, rfl, HB1.out⟩
    rw [HR.out]
    unfold Tm.pty
    have hk := HK.out
    exact ⟨fun h => ⟨fun _ => h, fun h9 => by omega⟩, fun h => h.1 hk⟩
  · have t1 : (t.kind == 6) = false := by simp [h6]
    have H6 := Lib.hid h6
    clear h6
    by_cases h9 : t.kind = 9
    · have t2 : (t.kind == 9) = true := by simp [h9]
      have HK := Lib.hid h9
      clear h9
      go_enter Tryz.func49, Tryz.ntmps49
      go_wp2_with fail
      refine (plainI_any (C := C) (t := t.ty) ⟨_, rfl, HT.out.ty.stays (.of_below HB0.out)⟩ HN1.out).mono ?_
      rintro e w1 ⟨r, hr, rfl, hb1⟩
      have HR := Lib.hid hr
      have HB1 := Lib.hid (HB0.out.trans (hb1.mono HB0.out.size))
      obtain ⟨f0, _, _, _, f4, f5, f6, f7, _⟩ := HX0.out.keep hb1
      clear hr hb1
      cases r with
      | false =>
        go_wp2_with fail
        go_ret
        refine ⟨false, ?_, rfl, HB1.out⟩
        simp only [Bool.false_eq_true, false_iff]
        intro h
        have := (h.2 HK.out).1
        rw [← HR.out] at this
        cases this
      | true =>
        go_wp2_with fail
        refine (plainI_any (C := C) (t := t.res) ⟨_, rfl, HT.out.res.stays (.of_below HB1.out)⟩ HN2.out).mono ?_
        rintro e w2 ⟨r2, hr2, rfl, hb2⟩
        have HR2 := Lib.hid hr2
        have HB2 := Lib.hid (HB1.out.trans (hb2.mono HB1.out.size))
        clear hr2 hb2
        go_wp2_with fail
        go_ret
        refine ⟨r2, ?_, rfl, HB2.out⟩
        rw [HR2.out]
        exact ⟨fun h => ⟨fun h6 => absurd h6 H6.out, fun _ => ⟨HR.out.symm, h⟩⟩, fun h => (h.2 HK.out).2⟩
    · have t2 : (t.kind == 9) = false := by simp [h9]
      have HK := Lib.hid h9
      clear h9
      go_enter Tryz.func49, Tryz.ntmps49
      go_wp2_with fail
      go_ret
      exact ⟨true, by simp only [true_iff]; exact ⟨fun h => absurd h H6.out, fun h => absurd h HK.out⟩, rfl, HB0.out⟩
attribute [local go_sem] Oper.semAt_some
def PlNode (x : Tm) : Prop := x.NodeOk ∧ x.kind < 10 ∧ x.ty.has 4 = false ∧ x.res.has 4 = false
theorem plain_walk (t : Tm) : (t.IsT ∧ t.pln) ↔ ∀ e ∈ walkM t 1, PlNode e.1 := by
  rw [isT_walk t 1, pln_walk t 1]
  exact ⟨fun h e he => ⟨h.1 e he, h.2 e he⟩, fun h => ⟨fun e he => (h e he).1, fun e he => (h e he).2⟩⟩
theorem plNode_iff {x : Tm} (h : x.NodeOk) (hs : ¬ (x.kind = 10 ∨ x.kind = 11 ∨ x.kind = 12 ∨ x.kind = 13)) (hp : x.pty) : PlNode x := by
  refine ⟨h, ?_, (pty_iff h).1 hp⟩
  have h2 := h.2
  unfold Tm.arity arK at h2
  repeat' split at h2
  all_goals omega
theorem not_pl_at {t x : Tm} {d : Nat} {pre : List (Tm × Nat)} (h : pre ++ [(x, d)] <+: walkM t 1) (hx : ¬ PlNode x) : ¬ (t.IsT ∧ t.pln) := fun hh =>
  hx ((plain_walk t).1 hh (x, d) (h.subset (by simp)))
set_option maxRecDepth 100000 in
set_option maxHeartbeats 2000000 in
theorem plnI_any {C : Nat → Prop} {t : Tm} {v : Value} {w : World} (hka : KA w) (h : TM w C t v) (hn : t.wt ≤ 2097152) :
    Calls Tryz.prog 11 #[v] w (Tells (t.IsT ∧ t.pln) w) := by
  have hnt : t.nodes ≤ 2097153 := by have := t.nodes_wt; omega
  have HKA := Lib.hid (fun (w' : World) (hb : Below w.heap.size w w') => hka.below hb)
  have HWT := Lib.hid hn
  clear hka hn
  obtain ⟨tp, tc, rp, rc, p, c, rfl, hT⟩ := h
  have HT := Lib.hid (hT.mono (C' := (· < w.heap.size)) (fun _ _ h => h))
  clear hT
  refine (callsIn_wide (n := 2)).1 ?_
  refine callsIn_of_wp_marks Tryz.func11 rfl trivial ?_ rfl
  simp only [Tryz.ntmps11, List.size_toArray, List.length_cons, List.length_nil, Nat.reduceAdd, Nat.reduceSub, Array.replicate_succ, Array.replicate_zero, List.push_toArray, List.append_toArray, List.nil_append, List.cons_append]
  gi_wp2_with fail
  obtain ⟨w0, hw0, hs0, hb0, hk0, hk1⟩ := box_new2 w (tmC t tp tc rp rc p c) #[.bool false] 29 4
  rw [hw0]
  refine ⟨trivial, ?_⟩
  refine (callsIn_wide.2 (tnM_any (HT.out.stays (.of_below hb0)))).mono ?_
  rintro e wl ⟨Bt, Bp, rfl, hI, hbw, hBt, hBp⟩
  have hsz := hbw.size
  have hbl : Below w.heap.size w wl := hb0.trans (hbw.mono hb0.size)
  have k1 : wl.heap[w.heap.size + 1]? = some (.cells #[.bool false] 4 (0, 0)) := (hbw.block _ (by omega)).trans hk1
  have hbp := (Array.getElem?_eq_some_iff.1 hI.bp).1
  have HSL : TM' wl (fun b => b < w.heap.size ∨ b = Bp) t tp tc rp rc p c := (HT.out.stays (.of_below hbl)).mono (fun z hz _ => Or.inl hz)
  clear hk0 hk1 hb0 hw0
  gi_wp2_with fail
  refine range_law (F := Fence.wide) (n := 2) rfl (by omega) (gf := 154) (lb := #[.pointer (some ⟨Bt, 0, none⟩), .pointer (some ⟨Bp, 0, none⟩)]) rfl trivial (enters_of Tryz.func154 (by kernel_rfl) rfl)
    (nodesM_seq2 hI HSL hnt (Below.refl _ _) (fun b => b = w.heap.size + 1) (fun b h => by omega) (fun b h => by omega) (Or.inr rfl)) (fun _ => rfl) (fun b h => by omega)
    (fun pre W => W.heap[w.heap.size + 1]? = some (.cells #[.bool false] 4 (0, 0)) ∧ (∀ e ∈ pre, PlNode e.1) ∧ Below w.heap.size w W)
    (fun j pre W => j = .ret ∧ W.cell? ⟨w.heap.size + 1, 0, none⟩ = some (.bool false) ∧ ¬ (t.IsT ∧ t.pln) ∧ Below w.heap.size w W)
    (fun pre A B h hb => ⟨(hb.block _ (by omega)).trans h.1, h.2.1, h.2.2.trans (hb.mono (by omega))⟩)
    (fun j pre A B h hb => ⟨h.1, (hb.cell (by show w.heap.size + 1 < _; omega)).trans h.2.1, h.2.2.1, h.2.2.2.trans (hb.mono (by omega))⟩)
    (goodM_keep (fun b h => by omega)) ⟨k1, (fun e he => absurd he (List.not_mem_nil)), hbl⟩
    (fun x a' W => ∃ bx, W.heap[bx]? = some (.cells x.2.1.cells 29 (0, 0)) ∧ a' = { tmps := #[tmV t tp tc rp rc p c, .pointer (some ⟨w.heap.size, 0, none⟩), .pointer (some ⟨w.heap.size + 1, 0, none⟩), .pointer (some ⟨bx, 0, none⟩),
      tmV t tp tc rp rc p c, iterM Bt Bp, x.2.1, .int .i64 (x.2.2 : Nat), undef, undef, undef, undef, undef, undef, undef, undef, undef, undef, undef, undef], defers := [] })
    (fun x a' W l r o h hl => by
      obtain ⟨bx, h2, h3⟩ := h
      exact ⟨bx, (World.putObj_heap_other (fun e => by rw [e, hl] at h2; cases h2)).trans h2, h3⟩) ?assign ?body ?done ?stop
  case assign =>
    rintro l ⟨x, v, d⟩ W K hG hK
    have hG : TM W _ x v := hG
    obtain ⟨tp', tc', rp', rc', p', c', rfl, hG'⟩ := hG
    have HK := Lib.hid hK
    clear hK
    gi_wp2
    exact HK.out _ _ ((Below.refl _ _).alloc (Nat.le_refl _) _) ⟨W.heap.size, blk_new _ _, by simp⟩
  case body =>
    rintro l pre ⟨x, v, d⟩ a' W ⟨hr, hso, hB⟩ hpre hG ⟨bx, hbx, rfl⟩
    have hpre : pre ++ [(x, d)] <+: walkM t 1 := hpre
    have hbx : W.heap[bx]? = some (.cells v.cells 29 (0, 0)) := hbx
    have hG : TM W _ x v := hG
    obtain ⟨tp', tc', rp', rc', p', c', rfl, hG'⟩ := hG
    simp only [Value.cells] at hbx
    obtain ⟨x0, x1, x2, x3, x4, x5, x6, x7, x8⟩ := Bx9.of hbx
    have hxw : x.wt ≤ 2097152 := by
      have h1 := wt_walk t 1 (x, d) (hpre.subset (by simp))
      have h2 := HWT.out
      simp only at h1
      omega
    have HC := Lib.hid (formI_any W (HKA.out W hB) hG' hxw)
    have HCP := Lib.hid (fun (W' : World) (hb : Below W.heap.size W W') => ptyI_any (hG'.stays (.of_below hb)) hxw)
    have HR1 := Lib.hid hr
    have HB1 := Lib.hid hB
    have HSO := Lib.hid hso
    have HP := Lib.hid hpre
    have HBX := Lib.hid (fun (W' : World) (hb : Below W.heap.size W W') => Bx9.of ((hb.block bx (Array.getElem?_eq_some_iff.1 hbx).1).trans hbx))
    have HFIN := Lib.hid (fun (W' : World) (hb : Below W.heap.size W W') => show W'.heap[w.heap.size + 1]? = some (.cells #[.bool false] 4 (0, 0)) from (hb.block _ (Array.getElem?_eq_some_iff.1 hr).1).trans hr)
    clear hso hpre hr hbx hB k1 hG' HSL hbl hbw hI hxw
    gi_wp2_with fail
    refine ⟨trivial, rfl, ?_⟩
    refine (CallsIn.inRound l (callsIn_wide.2 HC.out)).mono ?_
    rintro e W2 ⟨b, hb, rfl, hb2⟩
    have HBB := Lib.hid hb
    have HB2 := Lib.hid hb2
    clear hb hb2 x0 x1 x2 x3 x4 x5 x6 x7 x8
    cases b with
    | false =>
      have hr2 := HFIN.out W2 HB2.out
      have r2 := cell_of_blk hr2 0
      have rz := unfrozen_of_blk hr2 0
      simp only [List.getElem?_toArray, List.getElem?_cons_zero] at r2
      have hcc := World.cell?_setCell_same' W2 ⟨w.heap.size + 1, 0, none⟩ (.bool false) (by rw [r2]; rfl)
      have HCC := Lib.hid hcc
      clear hcc hr2
      gi_wp2_with fail
      refine ⟨trivial, ?_⟩
      gi_wp2_with fail
      refine ⟨trivial, ?_⟩
      gi_wp2_with fail
      exact ⟨Holds.setCell (Cb := fun b => b = w.heap.size + 1) (.of_below HB2.out) ⟨w.heap.size + 1, 0, none⟩ rfl _, rfl, HCC.out, not_pl_at HP.out (fun h => by have := HBB.out.2 h.1; cases this), (HB1.out.trans (HB2.out.mono HB1.out.size)).setCell (p := ⟨w.heap.size + 1, 0, none⟩) (by show w.heap.size ≤ w.heap.size + 1; omega) _⟩
    | true =>
      obtain ⟨x0, x1, x2, x3, x4, x5, x6, x7, x8⟩ := HBX.out W2 HB2.out
      gi_wp2_with fail
      refine ⟨trivial, rfl, ?_⟩
      refine (CallsIn.inRound l (callsIn_wide.2 (stageI_any x tp' tc' rp' rc' p' c' W2))).mono ?_
      rintro e W3 ⟨b3, hb3, rfl, hb23⟩
      have HBB3 := Lib.hid hb3
      have HB3 := Lib.hid (HB2.out.trans (hb23.mono HB2.out.size))
      clear hb3 hb23 x0 x1 x2 x3 x4 x5 x6 x7 x8
      cases b3 with
      | true =>
        have hr2 := HFIN.out W3 HB3.out
        have r2 := cell_of_blk hr2 0
        have rz := unfrozen_of_blk hr2 0
        simp only [List.getElem?_toArray, List.getElem?_cons_zero] at r2
        have hcc := World.cell?_setCell_same' W3 ⟨w.heap.size + 1, 0, none⟩ (.bool false) (by rw [r2]; rfl)
        have HCC := Lib.hid hcc
        clear hcc hr2
        gi_wp2_with fail
        refine ⟨trivial, ?_⟩
        gi_wp2_with fail
        exact ⟨Holds.setCell (Cb := fun b => b = w.heap.size + 1) (.of_below HB3.out) ⟨w.heap.size + 1, 0, none⟩ rfl _, rfl, HCC.out, not_pl_at HP.out (fun h => by have h1 := HBB3.out.1 (by trivial); have h2 : x.kind < 10 := h.2.1; omega), (HB1.out.trans (HB3.out.mono HB1.out.size)).setCell (p := ⟨w.heap.size + 1, 0, none⟩) (by show w.heap.size ≤ w.heap.size + 1; omega) _⟩
      | false =>
        obtain ⟨x0, x1, x2, x3, x4, x5, x6, x7, x8⟩ := HBX.out W3 HB3.out
        gi_wp2_with fail
        refine ⟨trivial, rfl, ?_⟩
        refine (CallsIn.inRound l (callsIn_wide.2 (HCP.out W3 HB3.out))).mono ?_
        rintro e W4 ⟨b4, hb4, rfl, hb34⟩
        have HBB4 := Lib.hid hb4
        have HB4 := Lib.hid (HB3.out.trans (hb34.mono HB3.out.size))
        clear hb4 hb34 x0 x1 x2 x3 x4 x5 x6 x7 x8
        cases b4 with
        | false =>
          have hr2 := HFIN.out W4 HB4.out
          have r2 := cell_of_blk hr2 0
          have rz := unfrozen_of_blk hr2 0
          simp only [List.getElem?_toArray, List.getElem?_cons_zero] at r2
          have hcc := World.cell?_setCell_same' W4 ⟨w.heap.size + 1, 0, none⟩ (.bool false) (by rw [r2]; rfl)
          have HCC := Lib.hid hcc
          clear hcc hr2
          gi_wp2_with fail
          exact ⟨Holds.setCell (Cb := fun b => b = w.heap.size + 1) (.of_below HB4.out) ⟨w.heap.size + 1, 0, none⟩ rfl _, rfl, HCC.out, not_pl_at HP.out (fun h => by have := HBB4.out.2 ((pty_iff h.1).2 h.2.2); cases this), (HB1.out.trans (HB4.out.mono HB1.out.size)).setCell (p := ⟨w.heap.size + 1, 0, none⟩) (by show w.heap.size ≤ w.heap.size + 1; omega) _⟩
        | true =>
          gi_wp2_with fail
          refine ⟨.of_below HB4.out, HFIN.out W4 HB4.out, fun e he => ?_, HB1.out.trans (HB4.out.mono HB1.out.size)⟩
          rcases List.mem_append.1 he with he | he
          · exact HSO.out e he
          · simp only [List.mem_singleton] at he
            subst he
            exact plNode_iff (HBB.out.1 (by trivial)) (fun h => by have := HBB3.out.2 h; cases this) (HBB4.out.1 (by trivial))
  case done =>
    rintro D W hD ⟨hr, hso, hB⟩ hK
    have r0 := cell_of_blk hr 0
    have rz := unfrozen_of_blk hr 0
    simp only [List.getElem?_toArray, List.getElem?_cons_zero] at r0
    have HV := Lib.hid ((plain_walk t).2 hso)
    have HB := Lib.hid hB
    have hK' : (W.setCell ⟨w.heap.size + 1, 0, none⟩ (.bool true)).heap[D]? = some (.deferred (some [])) := (Below.heap_setCell _ _ _ _ (by show D ≠ w.heap.size + 1; omega)).trans hK
    clear hso hB hr hK k1 HSL hbl hbw hI
    gi_wp2_with fail
    refine ⟨by simp, .inl ⟨_, _, rfl, run_takeDeferred hK', ?_⟩⟩
    have hc := (World.cell?_of_block (a := ⟨w.heap.size + 1, 0, none⟩) (w' := (W.setCell ⟨w.heap.size + 1, 0, none⟩ (.bool true)).putObj D (.deferred none)) (World.putObj_heap_other (by show w.heap.size + 1 ≠ D; omega))).trans (World.cell?_setCell_same' W ⟨w.heap.size + 1, 0, none⟩ (.bool true) (by rw [r0]; rfl))
    refine ⟨.bool true, ?_, _, ⟨fun _ => HV.out, fun _ => rfl⟩, rfl, (HB.out.setCell (p := ⟨w.heap.size + 1, 0, none⟩) (by show w.heap.size ≤ w.heap.size + 1; omega) _).trans (below_putObj _ _ _ _ (by omega))⟩
    rw [results_cell1 rfl]
    go_simp
  case stop =>
    rintro D c pre W hD hpre ⟨rfl, hr, hv, hB⟩ hK
    have HB := Lib.hid hB
    have HV := Lib.hid hv
    clear hv hB k1 HSL hbl hbw hI
    gi_wp2_with fail
    refine ⟨by simp, .inl ⟨_, _, rfl, run_takeDeferred hK, ?_⟩⟩
    have hc := (World.cell?_of_block (a := ⟨w.heap.size + 1, 0, none⟩) (w' := W.putObj D (.deferred none)) (World.putObj_heap_other (by show w.heap.size + 1 ≠ D; omega))).trans hr
    refine ⟨.bool false, ?_, _, ⟨fun h => by simp at h, fun h => absurd h HV.out⟩, rfl, HB.out.trans (below_putObj _ _ _ _ (by omega))⟩
    rw [results_cell1 rfl]
    go_simp
attribute [local go_sem] Oper.semAt_some
set_option maxRecDepth 100000 in
set_option maxHeartbeats 2000000 in
theorem splI_any {C : Nat → Prop} {t : Tm} {v : Value} {w : World} (h : TM w C t v) (hn : t.wt ≤ 2097152) :
    Calls Tryz.prog 15 #[v] w (IntRet (fun r => r = ((t.splices : Nat) : Int)) w) := by
  have hnt : t.nodes ≤ 2097153 := by have := t.nodes_wt; omega
  obtain ⟨tp, tc, rp, rc, p, c, rfl, hT⟩ := h
  have HT := Lib.hid (hT.mono (C' := (· < w.heap.size)) (fun _ _ h => h))
  clear hT
  refine (callsIn_wide (n := 2)).1 ?_
  refine callsIn_of_wp_marks Tryz.func15 rfl trivial ?_ rfl
  simp only [Tryz.ntmps15, List.size_toArray, List.length_cons, List.length_nil, Nat.reduceAdd, Nat.reduceSub, Array.replicate_succ, Array.replicate_zero, List.push_toArray, List.append_toArray, List.nil_append, List.cons_append]
  gi_wp2_with fail
  obtain ⟨w0, hw0, hs0, hb0, hk0, hk1⟩ := box_new2 w (tmC t tp tc rp rc p c) #[.int .i64 0] 29 3
  rw [hw0]
  refine ⟨trivial, ?_⟩
  refine (callsIn_wide.2 (tnM_any (HT.out.stays (.of_below hb0)))).mono ?_
  rintro e wl ⟨Bt, Bp, rfl, hI, hbw, hBt, hBp⟩
  have hsz := hbw.size
  have hbl : Below w.heap.size w wl := hb0.trans (hbw.mono hb0.size)
  have k1 : wl.heap[w.heap.size + 1]? = some (.cells #[.int .i64 0] 3 (0, 0)) := (hbw.block _ (by omega)).trans hk1
  have hbp := (Array.getElem?_eq_some_iff.1 hI.bp).1
  have HSL : TM' wl (fun b => b < w.heap.size ∨ b = Bp) t tp tc rp rc p c := (HT.out.stays (.of_below hbl)).mono (fun z hz _ => Or.inl hz)
  clear hk0 hk1 hb0 hw0
  gi_wp2_with fail
  refine range_law (F := Fence.wide) (n := 2) rfl (by omega) (gf := 154) (lb := #[.pointer (some ⟨Bt, 0, none⟩), .pointer (some ⟨Bp, 0, none⟩)]) rfl trivial (enters_of Tryz.func154 (by kernel_rfl) rfl)
    (nodesM_seq2 hI HSL hnt (Below.refl _ _) (fun b => b = w.heap.size + 1) (fun b h => by omega) (fun b h => by omega) (Or.inr rfl)) (fun _ => rfl) (fun b h => by omega)
    (fun pre W => W.cell? ⟨w.heap.size + 1, 0, none⟩ = some (.int .i64 ((spl pre : Nat) : Int)) ∧ W.frozen? ⟨w.heap.size + 1, 0, none⟩ = false ∧ Below w.heap.size w W)
    (fun _ _ _ => False)
    (fun pre A B h hb => ⟨(hb.cell (by show w.heap.size + 1 < _; omega)).trans h.1, (hb.frozen (by show w.heap.size + 1 < _; omega)).trans h.2.1, h.2.2.trans (hb.mono (by omega))⟩)
    (fun _ _ _ _ h _ => h)
    (goodM_keep (fun b h => by omega)) ⟨cell_of_blk k1 0, unfrozen_of_blk k1 0, hbl⟩
    (fun x a' W => ∃ bx, W.heap[bx]? = some (.cells x.2.1.cells 29 (0, 0)) ∧ a' = { tmps := #[tmV t tp tc rp rc p c, .pointer (some ⟨w.heap.size, 0, none⟩), .int .i64 0, .pointer (some ⟨w.heap.size + 1, 0, none⟩), .pointer (some ⟨bx, 0, none⟩),
      tmV t tp tc rp rc p c, iterM Bt Bp, x.2.1, .int .i64 (x.2.2 : Nat), undef, undef, undef, undef, undef, undef], defers := [] })
    (fun x a' W l r o h hl => by
      obtain ⟨bx, h2, h3⟩ := h
      exact ⟨bx, (World.putObj_heap_other (fun e => by rw [e, hl] at h2; cases h2)).trans h2, h3⟩) ?assign ?body ?done ?stop
  case assign =>
    rintro l ⟨x, v, d⟩ W K hG hK
    have hG : TM W _ x v := hG
    obtain ⟨tp', tc', rp', rc', p', c', rfl, hG'⟩ := hG
    have HK := Lib.hid hK
    clear hK
    gi_wp2
    exact HK.out _ _ ((Below.refl _ _).alloc (Nat.le_refl _) _) ⟨W.heap.size, blk_new _ _, by simp⟩
  case body =>
    rintro l pre ⟨x, v, d⟩ a' W ⟨r2, rz, hB⟩ hpre hG ⟨bx, hbx, rfl⟩
    have hpre : pre ++ [(x, d)] <+: walkM t 1 := hpre
    have hbx : W.heap[bx]? = some (.cells v.cells 29 (0, 0)) := hbx
    have hG : TM W _ x v := hG
    obtain ⟨tp', tc', rp', rc', p', c', rfl, hG'⟩ := hG
    simp only [Value.cells] at hbx
    obtain ⟨x0, _, _, _, _, _, _, _, _⟩ := Bx9.of hbx
    have hlen := walkM_pre hpre hnt
    rw [List.length_append, List.length_singleton] at hlen
    have hsp := spl_le pre
    have hsn := spl_snoc pre x d
    have HSN := Lib.hid hsn
    have HB := Lib.hid hB
    have HR := Lib.hid r2
    have HZ := Lib.hid rz
    clear hpre hbx hB k1 hG' HSL hbl hbw hI hsn
    by_cases hk : x.kind = 11
    · have t1 : (x.kind == 11) = true := by simp [hk]
      have HK := Lib.hid hk
      clear hk
      gi_wp2_with fail
      refine ⟨Holds.setCell (Cb := fun b => b = w.heap.size + 1) (Holds.refl _ W) ⟨w.heap.size + 1, 0, none⟩ rfl _, ?_, by rw [World.frozen?_setCell]; exact HZ.out, HB.out.setCell (p := ⟨w.heap.size + 1, 0, none⟩) (by show w.heap.size ≤ w.heap.size + 1; omega) _⟩
      show (World.setCell W ⟨w.heap.size + 1, 0, none⟩ _).cell? ⟨w.heap.size + 1, 0, none⟩ = some (.int .i64 ((spl (pre ++ [(x, d)]) : Nat) : Int))
      rw [HSN.out, if_pos HK.out]
      exact World.cell?_setCell_same' _ _ _ (by rw [HR.out]; rfl)
    · have t1 : (x.kind == 11) = false := by simp [hk]
      have HK := Lib.hid hk
      clear hk
      gi_wp2_with fail
      refine ⟨Holds.refl _ _, ?_, HZ.out, HB.out⟩
      show W.cell? ⟨w.heap.size + 1, 0, none⟩ = some (.int .i64 ((spl (pre ++ [(x, d)]) : Nat) : Int))
      rw [HSN.out, if_neg HK.out]
      exact HR.out
  case done =>
    rintro D W hD ⟨r0, _, hB⟩ hK
    have HB := Lib.hid hB
    have HS := Lib.hid (splices_walk t 1)
    clear hB k1 HSL hbl hbw hI
    gi_wp2_with fail
    refine ⟨by simp, .inl ⟨_, _, rfl, run_takeDeferred hK, ?_⟩⟩
    exact ⟨_, results_tmp rfl _ _ _, _, by rw [HS.out], rfl, HB.out.trans (below_putObj _ _ _ _ (by omega))⟩
  case stop =>
    rintro D c pre W _ _ h _
    exact h.elim
end Go.Proofs.YtfeijijeohfpgaaGreatDoor
namespace Go.Proofs.YtfeijijeohfpgaaGreatDoor
open Go Go.RowKit
theorem bit11 (k : Int) : bit (k == 11) = ((if k = 11 then 1 else 0 : Nat) : Int) := by
  by_cases h : k = 11
  · simp [h, bit]
  · have : (k == 11) = false := by simp [h]
    simp [h, this, bit]
set_option maxRecDepth 100000 in
set_option maxHeartbeats 1000000 in
theorem splS_any {C : Nat → Prop} : ∀ (m : Nat) {t : Tm} {tp : Option Addr} {tc : Nat} {rp : Option Addr} {rc : Nat} {p : Option Addr} {c : Nat} (w : World), t.nodes ≤ m → TM' w C t tp tc rp rc p c → t.wt ≤ 2097152 → Calls Tryz.prog 16 #[tmV t tp tc rp rc p c] w (IntRet (fun r => r = ((t.splices : Nat) : Int)) w)
  | 0, t, tp, tc, rp, rc, p, c, w, hm, hT, hn => by rw [t.nodes_eq] at hm; omega
  | m + 1, t, tp, tc, rp, rc, p, c, w, hm, hT, hn => by
    have HT := Lib.hid hT
    have HX0 := Lib.hid (Bx9.new w t tp tc rp rc p c 29)
    have HB0 := Lib.hid (al_below w (.cells (tmC t tp tc rp rc p c) 29))
    have hne := t.nodes_eq
    have hwe := t.wt_eq
    have hlen := wtS_ge t.args
    have hnw := nodesM_wt t.args
    have HM := Lib.hid hm
    have HNE := Lib.hid hne
    have HSE := Lib.hid t.splices_eq
    have hwa : wtS t.args ≤ 2097152 := by omega
    obtain ⟨k0, hk0⟩ : ∃ k0 : Nat, k0 = (if t.kind = 11 then 1 else 0) := ⟨_, rfl⟩
    have hk1 : k0 ≤ 1 := by rw [hk0]; split <;> omega
    have HBIT := Lib.hid (show bit (t.kind == 11) = (k0 : Int) by rw [bit11, hk0])
    have HK0 := Lib.hid hk0
    clear hT hne hwe hm hk0
    obtain ⟨c0, _, _, _, _, _, _, _, _⟩ := HX0.out
    go_enter Tryz.func16, Tryz.ntmps16
    go_wp2_with fail
    refine (bitS_any _ _).mono ?_
    rintro e w0 ⟨rfl, rfl⟩
    rw [HBIT.out]
    clear c0
    go_wp2_with fail
    go_loopw [3, 4] (fun n i wr => ∃ (k : Nat), k ≤ t.args.length ∧ i = .int .i64 k ∧ n = .int .i64 ((k0 + splicesS (t.args.take k) : Nat) : Int) ∧ Below (w.alloc (.cells (tmC t tp tc rp rc p c) 29)).heap.size (w.alloc (.cells (tmC t tp tc rp rc p c) 29)) wr) (fun _ i _ => t.args.length - (intOf i).toNat)
    case atStart => exact ⟨0, Nat.zero_le _, rfl, by simp [splicesS], Below.refl _ _⟩
    case round =>
      obtain ⟨k, hk, rfl, rfl, hbr⟩ := hrel
      have HBR := Lib.hid hbr
      have HB := Lib.hid (HB0.out.trans (hbr.mono HB0.out.size))
      obtain ⟨_, _, _, _, _, _, _, _, d8⟩ := HX0.out.keep hbr
      clear hbr
      by_cases hlk : k < t.args.length
      · obtain ⟨b, o, tp2, tc2, rp2, rc2, p2, c2, rfl, hC, hb, h9, hP⟩ := tm_part HT.out.args k hlk
        obtain ⟨g0, g1, g2, g3, g4, g5, g6, g7, g8⟩ := h9 wr (.of_below HB.out)
        have n1 := splicesS_take t.args k hlk
        have n2 := nodesM_take_le t.args k
        have n3 := splicesS_nodes (t.args.take k)
        have n4 := nodesM_at t.args k hlk
        have n5 := wtS_at t.args k hlk
        have n6 := t.args[k].splices_nodes
        have hmk : t.args[k].nodes ≤ m := by have := HM.out; have := HNE.out; omega
        have hi0 : (0 : Int) ≤ (k : Int) := Int.natCast_nonneg _
        have hi1 : (k : Int) < (t.args.length : Int) := by omega
        have b1 : splicesS (t.args.take k) ≤ 2097152 := by omega
        have b2 : t.args[k].splices ≤ 2097153 := by omega
        have HC := Lib.hid (splS_any m wr hmk (hP.stays (.of_below HB.out)) (by omega))
        have HN1 := Lib.hid n1
        clear hC hb h9 hP n1 n2 n3 n4 n5 n6 hmk
        go_wp2_with fail
        refine HC.out.mono ?_
        rintro e w1 ⟨r, hr, rfl, hb1⟩
        have HB1 := Lib.hid (HBR.out.trans (hb1.mono HBR.out.size))
        clear hb1
        subst hr
        go_wp2_with fail
        go_roundw
        case rel => exact ⟨k + 1, by omega, by go_num, by have h1 := HN1.out; rw [h1]; go_num, HB1.out⟩
        case measure => simp [intOf]; omega
      · obtain rfl : k = t.args.length := by omega
        rw [List.take_length]
        go_wp2_with fail
        go_ret
        exact ⟨_, by rw [HSE.out, HK0.out], rfl, box_rest HBR.out⟩
theorem splT_at {C : Nat → Prop} {t : Tm} {v : Value} {w : World} (h : TM w C t v) (hn : t.wt ≤ 2097152) : Calls Tryz.prog 16 #[v] w (IntRet (fun r => r = ((t.splices : Nat) : Int)) w) := by
  obtain ⟨tp, tc, rp, rc, p, c, rfl, hT⟩ := h
  exact splS_any _ w (Nat.le_refl _) hT hn
set_option maxHeartbeats 400000 in
theorem big_yes (a : Option Addr) (len cap : Nat) (w : World) (_hl : len ≤ 9223372036854775807) (h : 1048576 < (len : Int)) :
    Calls Tryz.prog 7 #[.slice a len cap] w fun e w' => e = .returned (.bool true) ∧ w = w' := by
  go_enter Tryz.func7, Tryz.ntmps7
  go_wp2_with fail
  go_ret
  exact ⟨rfl, rfl⟩
set_option maxHeartbeats 400000 in
theorem big_no (a : Option Addr) (len cap : Nat) (w : World) (h : ¬ 1048576 < (len : Int)) :
    Calls Tryz.prog 7 #[.slice a len cap] w fun e w' => e = .returned (.bool false) ∧ w = w' := by
  go_enter Tryz.func7, Tryz.ntmps7
  go_wp2_with fail
  go_ret
  exact ⟨rfl, rfl⟩
theorem nextL_plain {k : Int} (h : k < 10) (n : Int) : nextL k n = n := by
  unfold nextL
  rw [if_neg (by omega), if_neg (by omega)]
mutual
theorem pln_all : ∀ t : Tm, t.pln → (∀ n, 0 ≤ n → n ≤ 2 → t.lvOk n) ∧ (∀ n, t.high n = n) ∧ (∀ n, t.made n) ∧ t.splices = 0
  | .mk k a b m x r ts, h => by
    simp only [Tm.pln] at h
    obtain ⟨h1, h2, _, _⟩ := h
    obtain ⟨i1, i2, i3, i4⟩ := plnS_all ts h1
    refine ⟨fun n n0 n2 => ?_, fun n => ?_, fun n => ?_, ?_⟩
    · simp only [Tm.lvOk, nextL_plain h2]; exact ⟨⟨n0, n2⟩, i1 n n0 n2⟩
    · simp only [Tm.high, nextL_plain h2]; exact i2 n
    · simp only [Tm.made, nextL_plain h2]; exact ⟨fun e => by omega, i3 n⟩
    · simp only [Tm.splices, i4]; rw [if_neg (by omega)]
theorem plnS_all : ∀ ts : List Tm, plnS ts → (∀ n, 0 ≤ n → n ≤ 2 → lvOkS ts n) ∧ (∀ n, highS ts n n = n) ∧ (∀ n, madeS ts n) ∧ splicesS ts = 0
  | [], _ => ⟨fun _ _ _ => trivial, fun _ => rfl, fun _ => trivial, rfl⟩
  | t :: ts, h => by
    simp only [plnS] at h
    obtain ⟨a1, a2, a3, a4⟩ := pln_all t h.1
    obtain ⟨i1, i2, i3, i4⟩ := plnS_all ts h.2
    refine ⟨fun n n0 n2 => ⟨a1 n n0 n2, i1 n n0 n2⟩, fun n => ?_, fun n => ⟨a3 n, i3 n⟩, ?_⟩
    · simp only [highS, a2, Int.max_self]; exact i2 n
    · simp only [splicesS, a4, i4]
end
theorem keep9b {w0 W W' : World} {p0 p1 p2 p3 p4 p5 p6 p7 p8 : Addr} {v0 v1 v2 v3 v4 v5 v6 v7 v8 : Value} (hb : Below W.heap.size W W') (h : Below w0.heap.size w0 W ∧ W.cell? p0 = some v0 ∧ W.cell? p1 = some v1 ∧ W.cell? p2 = some v2 ∧ W.cell? p3 = some v3 ∧ W.cell? p4 = some v4 ∧ W.cell? p5 = some v5 ∧ W.cell? p6 = some v6 ∧ W.cell? p7 = some v7 ∧ W.cell? p8 = some v8) :
    Below w0.heap.size w0 W' ∧ W'.cell? p0 = some v0 ∧ W'.cell? p1 = some v1 ∧ W'.cell? p2 = some v2 ∧ W'.cell? p3 = some v3 ∧ W'.cell? p4 = some v4 ∧ W'.cell? p5 = some v5 ∧ W'.cell? p6 = some v6 ∧ W'.cell? p7 = some v7 ∧ W'.cell? p8 = some v8 := by
  obtain ⟨h, h0, h1, h2, h3, h4, h5, h6, h7, h8⟩ := h
  exact ⟨h.trans (hb.mono h.size), keepN hb h0, keepN hb h1, keepN hb h2, keepN hb h3, keepN hb h4, keepN hb h5, keepN hb h6, keepN hb h7, keepN hb h8⟩
set_option maxRecDepth 100000 in
set_option maxHeartbeats 400000 in
theorem lawLv_big (a : Option Addr) (len cap : Nat) (w : World) (hl : len ≤ 9223372036854775807) (h : 1048576 < (len : Int)) :
    Calls Tryz.prog 3 #[.slice a len cap] w fun e w' => e = .returned (.bool true) ∧ Below w.heap.size w w' := by
  go_enter Tryz.func3, Tryz.ntmps3
  go_wp2_with fail
  refine (big_yes a len cap w hl h).mono ?_
  rintro e w' ⟨rfl, rfl⟩
  go_wp2_with fail
  go_ret
  exact ⟨rfl, Below.refl _ _⟩
set_option maxRecDepth 100000 in
set_option maxHeartbeats 8000000 in
theorem lawLv_small (a : Option Addr) (len cap : Nat) (w : World) (hl : len ≤ 1048576) (hv : Bytes w (.slice a len cap)) (hka : KA w) :
    Calls Tryz.prog 3 #[.slice a len cap] w fun e w' => e = .returned (.bool true) ∧ Below w.heap.size w w' := by
  have HV := Lib.hid hv
  have HK := Lib.hid hka
  clear hv hka
  go_enter Tryz.func3, Tryz.ntmps3
  go_wp2_with fail
  refine (big_no a len cap w (by omega)).mono ?_
  rintro e w' ⟨rfl, rfl⟩
  go_wp2_with fail
  refine (drawLv_any _ w HV.out hl).mono ?_
  rintro e w1 ⟨v1, t, n, rfl, hn, ⟨tp, tc, rp, rc, p, c, rfl, hT⟩, hb1⟩
  have hba := al_below w1 (.cells (tmC t tp tc rp rc p c) 29)
  obtain ⟨wB, hwB⟩ : ∃ wB, w1.alloc (.cells (tmC t tp tc rp rc p c) 29) = wB := ⟨_, rfl⟩
  have hbx := Bx9.new w1 t tp tc rp rc p c 29
  rw [hwB] at hba hbx
  have hTB := (hT.stays (.of_below hba)).mono (C' := fun _ => True) (fun _ _ _ => trivial)
  have HF := Lib.hid (fun (W : World) (hW : Below wB.heap.size wB W) => hbx.keep hW)
  have HT := Lib.hid (fun (W : World) (hW : Below wB.heap.size wB W) => (⟨_, _, _, _, _, _, rfl, hTB.stays (.of_below hW)⟩ : TM W (fun _ => True) t (tmV t tp tc rp rc p c)))
  have HBB := Lib.hid (hb1.trans (hba.mono hb1.size))
  have HKA := Lib.hid (fun (W : World) (hW : Below wB.heap.size wB W) => HK.out.below (HBB.out.trans (hW.mono HBB.out.size)))
  have HWB := Lib.hid hwB
  have hwt : t.wt ≤ 2097152 := by omega
  have HB0 := Lib.hid (Below.refl wB.heap.size wB)
  clear hba hbx hT hTB hb1 hwB hn
  obtain ⟨g0, g1, g2, g3, g4, g5, g6, g7, g8⟩ := HF.out _ HB0.out
  go_wp2_with fail
  rw [HWB.out]
  go_region_held3 (fun w' => Below wB.heap.size wB w' ∧ w'.cell? ⟨w1.heap.size, 0, none⟩ = some (.int .i64 t.kind) ∧ w'.cell? ⟨w1.heap.size, 1, none⟩ = some (.string t.name) ∧ w'.cell? ⟨w1.heap.size, 2, none⟩ = some (.string t.other) ∧ w'.cell? ⟨w1.heap.size, 3, none⟩ = some (.int .i64 t.n) ∧ w'.cell? ⟨w1.heap.size, 4, none⟩ = some (.int .i64 t.ty.kind) ∧ w'.cell? ⟨w1.heap.size, 5, none⟩ = some (.slice tp t.ty.args.length tc) ∧ w'.cell? ⟨w1.heap.size, 6, none⟩ = some (.int .i64 t.res.kind) ∧ w'.cell? ⟨w1.heap.size, 7, none⟩ = some (.slice rp t.res.args.length rc) ∧ w'.cell? ⟨w1.heap.size, 8, none⟩ = some (.slice p t.args.length c))
    (first
      | (go_keep; done)
      | exact ⟨HB0.out.drew, g0, g1, g2, g3, g4, g5, g6, g7, g8⟩
      | exact keep9b hb14 (by assumption)
      | exact keep9b hb13 (by assumption)
      | exact keep9b hb12 (by assumption)
      | exact keep9b hb11 (by assumption)
      | exact keep9b hb10 (by assumption)
      | exact keep9b hb9 (by assumption)
      | exact keep9b hb8 (by assumption)
      | exact keep9b hb7 (by assumption)
      | exact keep9b hb6 (by assumption)
      | exact keep9b hb5 (by assumption))
    (first
      | (go_at_call 9; refine (levI_any n (HKA.out _ (And.left (by assumption))) (HT.out _ (And.left (by assumption))) hwt).mono ?_; rintro e w5 ⟨b1, hb1, rfl, hb5⟩)
      | (go_at_call 10; refine (levS_at n (HT.out _ (And.left (by assumption))) hwt).mono ?_; rintro e w6 ⟨b2, hb2, rfl, hb6⟩; obtain rfl : b2 = b1 := Bool.eq_iff_iff.2 (hb2.trans hb1.symm))
      | (go_at_call 11; refine (plnI_any (HKA.out _ (And.left (by assumption))) (HT.out _ (And.left (by assumption))) hwt).mono ?_; rintro e w7 ⟨b3, hb3, rfl, hb7⟩)
      | (go_at_call 12; refine (plnS_at (HT.out _ (And.left (by assumption))) hwt).mono ?_; rintro e w8 ⟨b4, hb4, rfl, hb8⟩; obtain rfl : b4 = b3 := Bool.eq_iff_iff.2 (hb4.trans hb3.symm))
      | (go_at_call 13; refine (genI_any n (HKA.out _ (And.left (by assumption))) (HT.out _ (And.left (by assumption))) hwt).mono ?_; rintro e w9 ⟨b5, hb5', rfl, hb9⟩)
      | (go_at_call 14; refine (genS_at n (HT.out _ (And.left (by assumption))) hwt).mono ?_; rintro e w10 ⟨b6, hb6', rfl, hb10⟩; obtain rfl : b6 = b5 := Bool.eq_iff_iff.2 (hb6'.trans hb5'.symm))
      | (go_at_call 15; refine (splI_any (HT.out _ (And.left (by assumption))) hwt).mono ?_; rintro e w11 ⟨r1, rfl, rfl, hb11⟩)
      | (go_at_call 16; refine (splT_at (HT.out _ (And.left (by assumption))) hwt).mono ?_; rintro e w12 ⟨r2, rfl, rfl, hb12⟩)
      | (go_at_call 17; refine (highI_any (HKA.out _ (And.left (by assumption))) (HT.out _ (And.left (by assumption))) hwt).mono ?_; rintro e w13 ⟨r3, hr3, rfl, hb13⟩)
      | (go_at_call 18; refine (highS_at (HT.out _ (And.left (by assumption))) hwt).mono ?_; rintro e w14 ⟨r4, hr4, rfl, hb14⟩; obtain rfl : r4 = r3 := HighIs.one hr4 hr3))
  rename_i hH
  have HBr := Lib.hid hH.1
  clear hH hb5 hb6 hb7 hb8 hb9 hb10 hb11 hb12 hb13 hb14 g0 g1 g2 g3 g4 g5 g6 g7 g8
  obtain ⟨g0, g1, g2, g3, g4, g5, g6, g7, g8⟩ := HF.out _ HBr.out
  go_wp2_with fail
  refine (plnI_any (HKA.out _ HBr.out) (HT.out _ HBr.out) hwt).mono ?_
  rintro e wp ⟨bp, hbp, rfl, hb⟩
  have HBwp := Lib.hid (HBr.out.trans (hb.mono HBr.out.size))
  clear hb g0 g1 g2 g3 g4 g5 g6 g7 g8
  obtain ⟨g0, g1, g2, g3, g4, g5, g6, g7, g8⟩ := HF.out _ HBwp.out
  have HBP := Lib.hid hbp
  clear hbp
  cases bp with
  | false =>
    go_wp2_with fail
    refine (genI_any n (HKA.out _ HBwp.out) (HT.out _ HBwp.out) hwt).mono ?_
    rintro e wg ⟨bg, hbg, rfl, hb⟩
    have HBwg := Lib.hid (HBwp.out.trans (hb.mono HBwp.out.size))
    clear hb g0 g1 g2 g3 g4 g5 g6 g7 g8
    obtain ⟨g0, g1, g2, g3, g4, g5, g6, g7, g8⟩ := HF.out _ HBwg.out
    have HBG := Lib.hid hbg
    clear hbg
    cases bg with
    | false =>
      go_wp2_with fail
      go_ret
      exact ⟨rfl, HBB.out.trans (HBwg.out.mono HBB.out.size)⟩
    | true =>
      go_wp2_with fail
      refine (levI_any n (HKA.out _ HBwg.out) (HT.out _ HBwg.out) hwt).mono ?_
      rintro e wl ⟨bl, hbl, rfl, hb⟩
      have HBwl := Lib.hid (HBwg.out.trans (hb.mono HBwg.out.size))
      clear hb g0 g1 g2 g3 g4 g5 g6 g7 g8
      obtain ⟨g0, g1, g2, g3, g4, g5, g6, g7, g8⟩ := HF.out _ HBwl.out
      obtain rfl : bl = true := hbl.2 (HBG.out.1 trivial).1
      clear hbl
      go_wp2_with fail
      go_ret
      exact ⟨rfl, HBB.out.trans (HBwl.out.mono HBB.out.size)⟩
  | true =>
    have hpl := pln_all t (HBP.out.1 rfl).2
    have HPL := Lib.hid hpl
    have HIT := Lib.hid (HBP.out.1 rfl).1
    clear hpl
    go_wp2_with fail
    refine (highI_any (HKA.out _ HBwp.out) (HT.out _ HBwp.out) hwt).mono ?_
    rintro e wh ⟨rh, hrh, rfl, hb⟩
    obtain rfl : rh = 0 := by
      rcases hrh with ⟨_, h⟩ | ⟨h, _⟩
      · rw [h]; exact HPL.out.2.1 0
      · exact absurd ⟨HIT.out, HPL.out.1 0 (by omega) (by omega)⟩ h
    have HBwh := Lib.hid (HBwp.out.trans (hb.mono HBwp.out.size))
    clear hb hrh g0 g1 g2 g3 g4 g5 g6 g7 g8
    obtain ⟨g0, g1, g2, g3, g4, g5, g6, g7, g8⟩ := HF.out _ HBwh.out
    go_wp2_with fail
    refine (genI_any 0 (HKA.out _ HBwh.out) (HT.out _ HBwh.out) hwt).mono ?_
    rintro e wz ⟨bz, hbz, rfl, hb⟩
    obtain rfl : bz = true := hbz.2 ⟨⟨HIT.out, HPL.out.1 0 (by omega) (by omega)⟩, HPL.out.2.2.1 0⟩
    have HBwz := Lib.hid (HBwh.out.trans (hb.mono HBwh.out.size))
    clear hb hbz g0 g1 g2 g3 g4 g5 g6 g7 g8
    obtain ⟨g0, g1, g2, g3, g4, g5, g6, g7, g8⟩ := HF.out _ HBwz.out
    go_wp2_with fail
    refine (splI_any (HT.out _ HBwz.out) hwt).mono ?_
    rintro e ws ⟨rs, rfl, rfl, hb⟩
    rw [HPL.out.2.2.2]
    have HBws := Lib.hid (HBwz.out.trans (hb.mono HBwz.out.size))
    clear hb g0 g1 g2 g3 g4 g5 g6 g7 g8
    obtain ⟨g0, g1, g2, g3, g4, g5, g6, g7, g8⟩ := HF.out _ HBws.out
    go_wp2_with fail
    refine (genI_any n (HKA.out _ HBws.out) (HT.out _ HBws.out) hwt).mono ?_
    rintro e wg ⟨bg, hbg, rfl, hb⟩
    have HBwg := Lib.hid (HBws.out.trans (hb.mono HBws.out.size))
    clear hb g0 g1 g2 g3 g4 g5 g6 g7 g8
    obtain ⟨g0, g1, g2, g3, g4, g5, g6, g7, g8⟩ := HF.out _ HBwg.out
    have HBG := Lib.hid hbg
    clear hbg
    cases bg with
    | false =>
      go_wp2_with fail
      go_ret
      exact ⟨rfl, HBB.out.trans (HBwg.out.mono HBB.out.size)⟩
    | true =>
      go_wp2_with fail
      refine (levI_any n (HKA.out _ HBwg.out) (HT.out _ HBwg.out) hwt).mono ?_
      rintro e wl ⟨bl, hbl, rfl, hb⟩
      have HBwl := Lib.hid (HBwg.out.trans (hb.mono HBwg.out.size))
      clear hb g0 g1 g2 g3 g4 g5 g6 g7 g8
      obtain ⟨g0, g1, g2, g3, g4, g5, g6, g7, g8⟩ := HF.out _ HBwl.out
      obtain rfl : bl = true := hbl.2 (HBG.out.1 trivial).1
      clear hbl
      go_wp2_with fail
      go_ret
      exact ⟨rfl, HBB.out.trans (HBwl.out.mono HBB.out.size)⟩
theorem lawLv_any (a : Option Addr) (len cap : Nat) (w : World) (hl : len ≤ 9223372036854775807) (hv : Bytes w (.slice a len cap)) (hka : KA w) :
    Calls Tryz.prog 3 #[.slice a len cap] w fun e w' => e = .returned (.bool true) ∧ Below w.heap.size w w' := by
  by_cases h : len ≤ 1048576
  · exact lawLv_small a len cap w h hv hka
  · exact lawLv_big a len cap w hl (by omega)
end Go.Proofs.YtfeijijeohfpgaaGreatDoor
namespace Go.Proofs.YtfeijijeohfpgaaGreatDoor
open Go Go.ChangeShapes Go.WideShapes Go.RowKit
theorem Bytes_of_trod {H : Type} {enc : TypeId × Value → H} {P : Program} {W : World} {spare : Nat → Bool} {held : Bool} {t e : TypeId} {a : Option Addr} {len cap : Nat} {d : DataW H} {p : List MemPlace}
    (ht : P.underlying t = some (.slice e)) (he : P.underlying e = some (.int .u8)) (hc : P.cellsOf e = 1) (h : DataW.Trod enc P W 0 spare held t (.slice a len cap) d p) :
    len ≤ 9223372036854775807 ∧ Bytes W (.slice a len cap) := by
  obtain ⟨fuel, hf⟩ := h
  rcases open_ints ht he hc hf with ⟨hcs, _⟩ | ⟨a', len', cap', zs, hcs, _, hl, hm, hz, _, hcell, hwz⟩
  · obtain ⟨rfl, rfl, rfl⟩ : a = none ∧ len = 0 ∧ cap = 0 := by simpa [Value.cells] using hcs
    exact ⟨Nat.zero_le _, Or.inl ⟨_, _, rfl⟩⟩
  · obtain ⟨rfl, rfl, rfl⟩ : a = some a' ∧ len = len' ∧ cap = cap' := by simpa [Value.cells] using hcs
    unfold maxLen at hm
    refine ⟨by omega, ?_⟩
    by_cases h0 : len = 0
    · subst h0
      exact Or.inl ⟨_, _, rfl⟩
    · have hle : len ≤ zs.length := by rw [hz]; split <;> omega
      obtain ⟨b, off, rfl, hc2⟩ := ints_at hcell (by omega)
      refine Or.inr ⟨b, off, len, cap, rfl, World.block_lt_of_cell? W _ (hc2 0 (by omega)), by omega, fun j hj => ?_⟩
      have hj2 : j < zs.length := by omega
      have hb := bounds_u8 (hwz (zs.getD j 0) (by rw [List.getD_eq_getElem?_getD, List.getElem?_eq_getElem hj2]; exact List.getElem_mem hj2))
      exact ⟨_, hb.1, hb.2, hc2 j hj2⟩
end Go.Proofs.YtfeijijeohfpgaaGreatDoor
namespace Go.Proofs.YtfeijijeohfpgaaGreatDoor
open Go Go.ChangeShapes Go.WideShapes Go.ChangeAt Go.RowKit
section
variable {H : Type} {enc : TypeId × Value → H} {P : Program}
theorem trodAll_below (hl : laidOutB P = true) {W W' : World} (hb : Below W.heap.size W W') : ∀ (ts : List TypeId) (vs : List Value) (ds : List (DataW H)) (ps : List MemPlace),
    (∀ t ∈ ts, P.readableRec t = true ∧ t < P.types.size) → DataW.TrodAll enc P W 0 (fun _ => true) true ts vs ds ps → (∀ x ∈ ps, x.block < W.heap.size) →
    DataW.TrodAll enc P W' 0 (fun b => decide (b < W.heap.size)) true ts vs ds ps
  | [], [], [], _, _, h, _ => h
  | t :: ts, v :: vs, d :: ds, ps, hr, h, hlt => by
    obtain ⟨p, q, h1, h2, rfl⟩ := h
    have ht := hr t (List.mem_cons_self ..)
    exact ⟨p, q, Below.trod hl ht.1 ht.2 h1 hb (fun x hx => hlt x (List.mem_append_left _ hx)), trodAll_below hl hb ts vs ds q (fun u hu => hr u (List.mem_cons_of_mem _ hu)) h2 (fun x hx => hlt x (List.mem_append_right _ hx)), rfl⟩
  | [], _ :: _, _, _, _, h, _ => h.elim
  | [], [], _ :: _, _, _, h, _ => h.elim
  | _ :: _, [], _, _, _, h, _ => h.elim
  | _ :: _, _ :: _, [], _, _, h, _ => h.elim
end
section
variable {H : Type} {enc : TypeId × Value → H} {P : Program}
theorem law_postV {f : Func} {s : ChangeSpec} {W W' : World} {args : Array Value} {ds gs : List (DataW H)} {before : List MemPlace} {tb : TypeId} (hl : laidOutB P = true)
    (hts : (f.params.toList.all fun t => P.readableRec t && decide (t < P.types.size)) = true) (hbool : P.underlying tb = some .bool) (hres : f.resultTypes = #[tb]) (hvars : varsRowed P s.vars = true)
    (hW : DataW.Whole enc P f.params.toList s.vars false W args.toList ds gs before) (hr : (s.fn H (ds ++ gs)).results = [.lit (.bool true)]) (ha : (s.fn H (ds ++ gs)).args = ds) (hv : (s.fn H (ds ++ gs)).vars = gs)
    (hb : Below W.heap.size W W') : s.post enc P f false true false false W args (.bool true) W' := by
  have hW0 := hW
  obtain ⟨p, q, hA, hV, rfl, hfz, _⟩ := hW
  have hlt : ∀ x ∈ p, x.block < W.heap.size := fun x hx => hW0.lt x (List.mem_append_left _ hx)
  refine ⟨ds, gs, p ++ q, [], p, q, hW0, ?_, ?_, ?_, hb.frame _, fun h => by cases h⟩
  · rw [hr, hres]
    exact trodAll_mk1 (shut_bool hbool _)
  · rw [ha]
    refine trodAll_below hl hb _ _ _ _ (fun t ht => ?_) hA hlt
    have := List.all_eq_true.1 hts t ht
    simp only [Bool.and_eq_true, decide_eq_true_eq] at this
    exact this
  · rw [hv]
    exact Below.trodVars hl hb hvars hV
end
end Go.Proofs.YtfeijijeohfpgaaGreatDoor
