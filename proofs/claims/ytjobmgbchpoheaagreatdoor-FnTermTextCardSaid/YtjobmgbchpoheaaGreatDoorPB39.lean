/-
  Several texts of the proof in one (each says below what it holds): WithinM IsTermI.
-/
import Derived.Test.YtjobmgbchpoheaaGreatDoorPB36
import Derived.Test.YtjobmgbchpoheaaGreatDoorPB38
import Derived.Lib.SmallJoins
namespace Go.Proofs.YtjobmgbchpoheaaGreatDoor
open Go Go.RowKit Go.Shelf
attribute [local go_sem] Oper.semAt_some
def SoFarM (ok : Tm → Bool) (ms md : Nat) (pre : List (Tm × Nat)) : Prop := (∀ e ∈ pre, ok e.1 = true ∧ e.2 ≤ md) ∧ pre.length ≤ ms
theorem soFarM_nil (ok : Tm → Bool) (ms md : Nat) : SoFarM ok ms md [] := ⟨by simp, by simp⟩
theorem SoFarM.next {ok : Tm → Bool} {ms md : Nat} {pre : List (Tm × Nat)} {x : Tm} {d : Nat} (h : SoFarM ok ms md pre) (h1 : ok x = true) (h2 : d ≤ md) (h3 : pre.length + 1 ≤ ms) : SoFarM ok ms md (pre ++ [(x, d)]) := by
  refine ⟨fun e he => ?_, by rw [List.length_append, List.length_singleton]; exact h3⟩
  rcases List.mem_append.1 he with he | he
  · exact h.1 e he
  · simp only [List.mem_singleton] at he; subst he; exact ⟨h1, h2⟩
theorem SoFarM.not {ok : Tm → Bool} {ms md : Nat} {t x : Tm} {d : Nat} {pre : List (Tm × Nat)} (h : pre ++ [(x, d)] <+: walkM t 1) (hb : ¬ (ok x = true ∧ d ≤ md ∧ pre.length + 1 ≤ ms)) : ¬ ((∀ e ∈ walkM t 1, ok e.1 = true ∧ e.2 ≤ md) ∧ t.nodes ≤ ms) := by
  rintro ⟨h1, h2⟩
  obtain ⟨h3, h4⟩ := h1 (x, d) (h.subset (by simp))
  have h5 := h.length_le
  rw [walkM_length, List.length_append, List.length_singleton] at h5
  exact hb ⟨h3, h4, by omega⟩

set_option maxRecDepth 100000 in
set_option maxHeartbeats 2000000 in
theorem withinM_any {t : Tm} {tp : Option Addr} {tc : Nat} {rp : Option Addr} {rc : Nat} {p : Option Addr} {c : Nat} {Bt Bp : Nat} {w : World} (h : IterM w t tp tc rp rc p c Bt Bp) (hn : t.nodes ≤ 2097153) (pf : FuncId) (ok : Tm → Bool) (ms md : Nat) (hpe : ∀ args w, (callFunc pf args).run Tryz.prog w = .ok (.enter pf args) w)
    (hp : ∀ (x : Tm) (v : Value) (d : Nat) (W : World), (x, d) ∈ walkM t 1 → NM W (· < w.heap.size) x v → Below w.heap.size w W → Calls Tryz.prog pf #[v] W (BoolRet (fun b => b = ok x) W)) :
    Calls Tryz.prog 50 #[iterM Bt Bp, .func (.func pf) #[] #[], .int .i64 (ms : Nat), .int .i64 (md : Nat)] w (BoolRet (fun r => r = true ↔ (∀ e ∈ walkM t 1, ok e.1 = true ∧ e.2 ≤ md) ∧ t.nodes ≤ ms) w) := by
  have HI := Lib.hid h
  have HPF := Lib.hid hp
  have HPE := Lib.hid hpe
  clear h hp hpe
  refine (callsIn_wide (n := 2)).1 ?_
  refine callsIn_of_wp_marks Tryz.func50 rfl trivial ?_ rfl
  simp only [Tryz.ntmps50, List.size_toArray, List.length_cons, List.length_nil, Nat.reduceAdd, Nat.reduceSub, Array.replicate_succ, Array.replicate_zero, List.push_toArray, List.append_toArray, List.nil_append, List.cons_append]
  gi_wp2_with fail
  obtain ⟨wl, hwl, hsz, hbl, k0, k1, k2, k3, k4⟩ := box_new5 w #[.func (.func pf) #[] #[]] #[.int .i64 (ms : Nat)] #[.int .i64 (md : Nat)] #[.bool false] #[.int .i64 0] 34 3 3 4 3
  rw [hwl]
  refine range_law (F := Fence.wide) (n := 2) rfl (by omega) (gf := 122) (lb := #[.pointer (some ⟨Bt, 0, none⟩), .pointer (some ⟨Bp, 0, none⟩)]) rfl trivial (enters_of Tryz.func122 (by kernel_rfl) rfl)
    (nodesM_seq HI.out hn hbl (fun b => b = w.heap.size + 3 ∨ b = w.heap.size + 4) (fun b h => by omega)) (fun _ => rfl) (fun b h => by omega)
    (fun pre W => W.heap[w.heap.size]? = some (.cells #[.func (.func pf) #[] #[]] 34 (0, 0)) ∧ W.heap[w.heap.size + 1]? = some (.cells #[.int .i64 (ms : Nat)] 3 (0, 0)) ∧ W.heap[w.heap.size + 1 + 1]? = some (.cells #[.int .i64 (md : Nat)] 3 (0, 0)) ∧
      W.heap[w.heap.size + 1 + 1 + 1]? = some (.cells #[.bool false] 4 (0, 0)) ∧ W.heap[w.heap.size + 1 + 1 + 1 + 1]? = some (.cells #[.int .i64 (pre.length : Nat)] 3 (0, 0)) ∧ SoFarM ok ms md pre ∧ Below w.heap.size w W)
    (fun j pre W => j = .ret ∧ W.cell? ⟨w.heap.size + 1 + 1 + 1, 0, none⟩ = some (.bool false) ∧ ¬ ((∀ e ∈ walkM t 1, ok e.1 = true ∧ e.2 ≤ md) ∧ t.nodes ≤ ms) ∧ Below w.heap.size w W)
    (fun pre A B h hb => ⟨(hb.block _ (by omega)).trans h.1, (hb.block _ (by omega)).trans h.2.1, (hb.block _ (by omega)).trans h.2.2.1, (hb.block _ (by omega)).trans h.2.2.2.1, (hb.block _ (by omega)).trans h.2.2.2.2.1, h.2.2.2.2.2.1, h.2.2.2.2.2.2.trans (hb.mono (by omega))⟩)
    (fun j pre A B h hb => ⟨h.1, (hb.cell (by show w.heap.size + 1 + 1 + 1 < _; omega)).trans h.2.1, h.2.2.1, h.2.2.2.trans (hb.mono (by omega))⟩)
    (goodM_keep (fun b h => by omega)) ⟨k0, k1, k2, k3, k4, soFarM_nil ok ms md, hbl⟩
    (fun x a' W => ∃ bx, W.heap[bx]? = some (.cells x.2.1.cells 29 (0, 0)) ∧ a' = { tmps := #[iterM Bt Bp, .func (.func pf) #[] #[], .int .i64 (ms : Nat), .int .i64 (md : Nat), undef, .pointer (some ⟨w.heap.size, 0, none⟩), .pointer (some ⟨w.heap.size + 1, 0, none⟩), .pointer (some ⟨w.heap.size + 1 + 1, 0, none⟩), .pointer (some ⟨w.heap.size + 1 + 1 + 1, 0, none⟩), .pointer (some ⟨w.heap.size + 1 + 1 + 1 + 1, 0, none⟩),
      .pointer (some ⟨bx, 0, none⟩), .int .i64 (x.2.2 : Nat), iterM Bt Bp, x.2.1, .int .i64 (x.2.2 : Nat), undef, undef, undef, undef, undef, undef, undef, undef, undef, undef, undef, undef, undef, undef, undef, undef], defers := [] })
    (fun x a' W l r o h hl => by
      obtain ⟨bx, h2, h3⟩ := h
      exact ⟨bx, (World.putObj_heap_other (fun e => by rw [e, hl] at h2; cases h2)).trans h2, h3⟩) ?assign ?body ?done ?stop
  case assign =>
    rintro l ⟨x, v, d⟩ W K hG hK
    have hG : TM W (· < w.heap.size) x v := hG
    obtain ⟨tp', tc', rp', rc', p', c', rfl, hG'⟩ := hG
    have HK := Lib.hid hK
    clear hK
    gi_wp2
    exact HK.out _ _ ((Below.refl _ _).alloc (Nat.le_refl _) _) ⟨W.heap.size, blk_new _ _, by simp⟩
  case body =>
    rintro l pre ⟨x, v, d⟩ a' W ⟨hf, hms', hmd', hr, hs, hso, hB⟩ hpre hG ⟨bx, hbx, rfl⟩
    have hpre : pre ++ [(x, d)] <+: walkM t 1 := hpre
    have hbx : W.heap[bx]? = some (.cells v.cells 29 (0, 0)) := hbx
    have hlen := walkM_pre hpre hn
    rw [List.length_append, List.length_singleton] at hlen
    have hd : d ≤ 2097153 := by
      have h1 := maxdM_prefix hpre
      have h2 := maxdM_walk t 1
      have h3 := t.depth_nodes
      rw [maxdM_snoc] at h1
      simp only at h1
      omega
    have hmem : (x, d) ∈ walkM t 1 := hpre.subset (by simp)
    have hG : TM W (· < w.heap.size) x v := hG
    obtain ⟨tp', tc', rp', rc', p', c', rfl, hG'⟩ := hG
    simp only [Value.cells] at hbx
    have s0 := cell_of_blk hs 0
    have sz := unfrozen_of_blk hs 0
    have f0 := cell_of_blk hf 0
    obtain ⟨x0, x1, x2, x3, x4, x5, x6, x7, x8⟩ := Bx9.of hbx
    simp only [List.getElem?_toArray, List.getElem?_cons_zero] at s0 f0
    let W1 := W.setCell ⟨w.heap.size + 1 + 1 + 1 + 1, 0, none⟩ (.int .i64 ((pre.length : Nat) + 1))
    have hne : bx ≠ w.heap.size + 1 + 1 + 1 + 1 := fun e => by rw [e, hs] at hbx; simp at hbx
    have hs1 : W1.heap[w.heap.size + 1 + 1 + 1 + 1]? = some (.cells #[.int .i64 ((pre.length : Nat) + 1)] 3 (0, 0)) := by
      rw [show W1 = W.setCell ⟨w.heap.size + 1 + 1 + 1 + 1, 0, none⟩ (.int .i64 ((pre.length : Nat) + 1)) from rfl, Go.Joins.block_setCell hs]; rfl
    have oth : ∀ b, b ≠ w.heap.size + 1 + 1 + 1 + 1 → W1.heap[b]? = W.heap[b]? := fun b hb => Below.heap_setCell _ _ _ _ hb
    have hH1 : Holds (fun b => b = w.heap.size + 3 ∨ b = w.heap.size + 4) W W1 := Holds.setCell (Holds.refl _ W) ⟨w.heap.size + 1 + 1 + 1 + 1, 0, none⟩ (Or.inr rfl) _
    have hB1 : Below w.heap.size w W1 := hB.setCell (p := ⟨w.heap.size + 1 + 1 + 1 + 1, 0, none⟩) (by show w.heap.size ≤ w.heap.size + 1 + 1 + 1 + 1; omega) _
    have hG1 : NM W1 (· < w.heap.size) x (tmV x tp' tc' rp' rc' p' c') := nstaysM (ntM_mk hG') ⟨hH1.1, fun b hb _ => oth b (by omega)⟩
    have HC := Lib.hid (HPF.out x _ d W1 hmem hG1 hB1)
    have HF1 := Lib.hid ((oth _ (by omega)).trans hf)
    have HMS := Lib.hid ((oth _ (by omega)).trans hms')
    have HMD := Lib.hid ((oth _ (by omega)).trans hmd')
    have HR1 := Lib.hid ((oth _ (by omega)).trans hr)
    have HS1 := Lib.hid hs1
    have HH1 := Lib.hid hH1
    have HB1 := Lib.hid hB1
    have HSO := Lib.hid hso
    have HP := Lib.hid hpre
    have HMEM := Lib.hid hmem
    clear hs1 hH1 hB1 hso hpre hs hr hf hms' hmd' hbx hB k0 k1 k2 k3 k4 hG' hG1 hbl hwl oth hmem
    gi_wp2_with fail
    refine ⟨trivial, ?_⟩
    rw [HPE.out]
    refine ⟨(fun h => by cases h), ?_⟩
    refine (CallsIn.inRound l (callsIn_wide.2 HC.out)).mono ?_
    rintro e W2 ⟨b, hb, rfl, hb2⟩
    have l1 := (Array.getElem?_eq_some_iff.1 HS1.out).1
    have l2 := (Array.getElem?_eq_some_iff.1 HR1.out).1
    have l3 := (Array.getElem?_eq_some_iff.1 HMS.out).1
    have l4 := (Array.getElem?_eq_some_iff.1 HMD.out).1
    have l5 := (Array.getElem?_eq_some_iff.1 HF1.out).1
    have s2 := cell_of_blk ((hb2.block _ l1).trans HS1.out) 0
    have r2 := cell_of_blk ((hb2.block _ l2).trans HR1.out) 0
    have rz := unfrozen_of_blk ((hb2.block _ l2).trans HR1.out) 0
    have m2 := cell_of_blk ((hb2.block _ l3).trans HMS.out) 0
    have n2 := cell_of_blk ((hb2.block _ l4).trans HMD.out) 0
    simp only [List.getElem?_toArray, List.getElem?_cons_zero] at s2 r2 m2 n2
    have HF2 := Lib.hid ((hb2.block _ l5).trans HF1.out)
    have HMS2 := Lib.hid ((hb2.block _ l3).trans HMS.out)
    have HMD2 := Lib.hid ((hb2.block _ l4).trans HMD.out)
    have HS2 := Lib.hid ((hb2.block _ l1).trans HS1.out)
    have HR2 := Lib.hid ((hb2.block _ l2).trans HR1.out)
    have hH2 : Holds (fun b => b = w.heap.size + 3 ∨ b = w.heap.size + 4) W W2 := HH1.out.trans (.of_below hb2)
    have hB2 : Below w.heap.size w W2 := HB1.out.trans (hb2.mono HB1.out.size)
    have finR : ¬ (ok x = true ∧ d ≤ md ∧ pre.length + 1 ≤ ms) → Holds (fun b => b = w.heap.size + 3 ∨ b = w.heap.size + 4) W (W2.setCell ⟨w.heap.size + 1 + 1 + 1, 0, none⟩ (.bool false)) ∧
        ((W2.setCell ⟨w.heap.size + 1 + 1 + 1, 0, none⟩ (.bool false)).cell? ⟨w.heap.size + 1 + 1 + 1, 0, none⟩ = some (.bool false) ∧ ¬ ((∀ e ∈ walkM t 1, ok e.1 = true ∧ e.2 ≤ md) ∧ t.nodes ≤ ms) ∧ Below w.heap.size w (W2.setCell ⟨w.heap.size + 1 + 1 + 1, 0, none⟩ (.bool false))) := fun hv =>
      ⟨hH2.setCell ⟨w.heap.size + 1 + 1 + 1, 0, none⟩ (Or.inl rfl) _, World.cell?_setCell_same' _ _ _ (by rw [r2]; rfl), SoFarM.not HP.out hv, hB2.setCell (p := ⟨w.heap.size + 1 + 1 + 1, 0, none⟩) (by show w.heap.size ≤ w.heap.size + 1 + 1 + 1; omega) _⟩
    have finN : ok x = true → d ≤ md → pre.length + 1 ≤ ms → Holds (fun b => b = w.heap.size + 3 ∨ b = w.heap.size + 4) W W2 ∧
        (W2.heap[w.heap.size]? = some (.cells #[.func (.func pf) #[] #[]] 34 (0, 0)) ∧ W2.heap[w.heap.size + 1]? = some (.cells #[.int .i64 (ms : Nat)] 3 (0, 0)) ∧ W2.heap[w.heap.size + 1 + 1]? = some (.cells #[.int .i64 (md : Nat)] 3 (0, 0)) ∧
        W2.heap[w.heap.size + 1 + 1 + 1]? = some (.cells #[.bool false] 4 (0, 0)) ∧ W2.heap[w.heap.size + 1 + 1 + 1 + 1]? = some (.cells #[.int .i64 ((pre ++ [(x, d)]).length : Nat)] 3 (0, 0)) ∧ SoFarM ok ms md (pre ++ [(x, d)]) ∧ Below w.heap.size w W2) := fun h1 h2 h3 =>
      ⟨hH2, HF2.out, HMS2.out, HMD2.out, HR2.out, by rw [HS2.out, List.length_append, List.length_singleton]; rfl, HSO.out.next h1 h2 h3, hB2⟩
    have FR := Lib.hid finR
    have FN := Lib.hid finN
    have HBB := Lib.hid hb
    clear finR finN hH2 hB2 hb2 hb s0 sz f0 x0 x1 x2 x3 x4 x5 x6 x7 x8 l1 l2 l3 l4 l5
    have d0 : (0 : Int) ≤ (d : Int) := Int.natCast_nonneg _
    cases b with
    | true =>
      by_cases h30 : (ms : Int) < (pre.length : Int) + 1
      · gi_wp2_with fail
        exact (fun h => ⟨h.1, rfl, h.2⟩) (FR.out (fun h => by omega))
      · by_cases h8 : (md : Int) < (d : Int)
        · gi_wp2_with fail
          exact (fun h => ⟨h.1, rfl, h.2⟩) (FR.out (fun h => by omega))
        · gi_wp2_with fail
          exact FN.out HBB.out.symm (by omega) (by omega)
    | false =>
      gi_wp2_with fail
      exact (fun h => ⟨h.1, rfl, h.2⟩) (FR.out (fun h => by have := HBB.out; rw [h.1] at this; exact absurd this (by decide)))
  case done =>
    rintro D W hD ⟨_, _, _, hr, _, hso, hB⟩ hK
    have r0 := cell_of_blk hr 0
    have rz := unfrozen_of_blk hr 0
    simp only [List.getElem?_toArray, List.getElem?_cons_zero] at r0
    have HV := Lib.hid (show (∀ e ∈ walkM t 1, ok e.1 = true ∧ e.2 ≤ md) ∧ t.nodes ≤ ms from ⟨hso.1, by have := hso.2; rwa [walkM_length] at this⟩)
    have HB := Lib.hid hB
    have HK := Lib.hid hK
    have hK' : (W.setCell ⟨w.heap.size + 1 + 1 + 1, 0, none⟩ (.bool true)).heap[D]? = some (.deferred (some [])) := (Below.heap_setCell _ _ _ _ (by show D ≠ w.heap.size + 1 + 1 + 1; omega)).trans hK
    clear hso hB hr hK k0 k1 k2 k3 k4 hbl hwl
    gi_wp2_with fail
    refine ⟨by simp, .inl ⟨_, _, rfl, run_takeDeferred hK', ?_⟩⟩
    have hc := (World.cell?_of_block (a := ⟨w.heap.size + 1 + 1 + 1, 0, none⟩) (w' := (W.setCell ⟨w.heap.size + 1 + 1 + 1, 0, none⟩ (.bool true)).putObj D (.deferred none)) (World.putObj_heap_other (by show w.heap.size + 1 + 1 + 1 ≠ D; omega))).trans (World.cell?_setCell_same' W ⟨w.heap.size + 1 + 1 + 1, 0, none⟩ (.bool true) (by rw [r0]; rfl))
    refine ⟨.bool true, ?_, _, ⟨fun _ => HV.out, fun _ => rfl⟩, rfl, (HB.out.setCell (p := ⟨w.heap.size + 1 + 1 + 1, 0, none⟩) (by show w.heap.size ≤ w.heap.size + 1 + 1 + 1; omega) _).trans (below_putObj _ _ _ _ (by omega))⟩
    rw [results_cell1 rfl]
    go_simp
  case stop =>
    rintro D c pre W hD hpre ⟨rfl, hr, hv, hB⟩ hK
    have HB := Lib.hid hB
    have HV := Lib.hid hv
    clear hv hB k0 k1 k2 k3 k4 hbl hwl
    gi_wp2_with fail
    refine ⟨by simp, .inl ⟨_, _, rfl, run_takeDeferred hK, ?_⟩⟩
    have hc := (World.cell?_of_block (a := ⟨w.heap.size + 1 + 1 + 1, 0, none⟩) (w' := W.putObj D (.deferred none)) (World.putObj_heap_other (by show w.heap.size + 1 + 1 + 1 ≠ D; omega))).trans hr
    refine ⟨.bool false, ?_, _, ⟨fun h => by simp at h, fun h => absurd h HV.out⟩, rfl, HB.out.trans (below_putObj _ _ _ _ (by omega))⟩
    rw [results_cell1 rfl]
    go_simp
end Go.Proofs.YtjobmgbchpoheaaGreatDoor
namespace Go.Proofs.YtjobmgbchpoheaaGreatDoor
open Go Go.RowKit Go.Shelf
attribute [local go_sem] Oper.semAt_some

set_option maxRecDepth 100000 in
set_option maxHeartbeats 2000000 in
theorem isTermI_any {C : Nat → Prop} {t : Tm} {v : Value} {w : World} (hka : KA w) (h : TM w C t v) (hn : t.wt ≤ 2097152) :
    Calls Tryz.prog 32 #[v] w (Tells t.IsT w) := by
  have hnt : t.nodes ≤ 2097153 := by have := t.nodes_wt; omega
  have HKA := Lib.hid (fun (w' : World) (hb : Below w.heap.size w w') => hka.below hb)
  have HWT := Lib.hid hn
  clear hka hn
  obtain ⟨tp, tc, rp, rc, p, c, rfl, hT⟩ := h
  have HT := Lib.hid (hT.mono (C' := (· < w.heap.size)) (fun _ _ h => h))
  clear hT
  refine (callsIn_wide (n := 2)).1 ?_
  refine callsIn_of_wp_marks Tryz.func32 rfl trivial ?_ rfl
  simp only [Tryz.ntmps32, List.size_toArray, List.length_cons, List.length_nil, Nat.reduceAdd, Nat.reduceSub, Array.replicate_succ, Array.replicate_zero, List.push_toArray, List.append_toArray, List.nil_append, List.cons_append]
  gi_wp2_with fail
  obtain ⟨w0, hw0, hs0, hb0, hk0, hk1⟩ := box_new2 w (tmC t tp tc rp rc p c) #[.bool false] 29 4
  rw [hw0]
  refine ⟨trivial, ?_⟩
  refine (callsIn_wide.2 (tnM_any (HT.out.stays (.of_below hb0)))).mono ?_
  rintro e wl ⟨Bt, Bp, rfl, hI, hbw, hBt, hBp⟩
  have hsz := hbw.size
  have hbl : Below w.heap.size w wl := hb0.trans (hbw.mono hb0.size)
  have k1 : wl.heap[w.heap.size + 1]? = some (.cells #[.bool false] 4 (0, 0)) := (hbw.block _ (by omega)).trans hk1
  have hbp := (Array.getElem?_eq_some_iff.1 hI.bp).1
  have HSL : TM' wl (fun b => b < w.heap.size ∨ b = Bp) t tp tc rp rc p c := (HT.out.stays (.of_below hbl)).mono (fun z hz _ => Or.inl hz)
  clear hk0 hk1 hb0 hw0
  gi_wp2_with fail
  refine range_law (F := Fence.wide) (n := 2) rfl (by omega) (gf := 122) (lb := #[.pointer (some ⟨Bt, 0, none⟩), .pointer (some ⟨Bp, 0, none⟩)]) rfl trivial (enters_of Tryz.func122 (by kernel_rfl) rfl)
    (nodesM_seq2 hI HSL hnt (Below.refl _ _) (fun b => b = w.heap.size + 1) (fun b h => by omega) (fun b h => by omega) (Or.inr rfl)) (fun _ => rfl) (fun b h => by omega)
    (fun pre W => W.heap[w.heap.size + 1]? = some (.cells #[.bool false] 4 (0, 0)) ∧ AllOk pre ∧ Below w.heap.size w W)
    (fun j pre W => j = .ret ∧ W.cell? ⟨w.heap.size + 1, 0, none⟩ = some (.bool false) ∧ ¬ t.IsT ∧ Below w.heap.size w W)
    (fun pre A B h hb => ⟨(hb.block _ (by omega)).trans h.1, h.2.1, h.2.2.trans (hb.mono (by omega))⟩)
    (fun j pre A B h hb => ⟨h.1, (hb.cell (by show w.heap.size + 1 < _; omega)).trans h.2.1, h.2.2.1, h.2.2.2.trans (hb.mono (by omega))⟩)
    (goodM_keep (fun b h => by omega)) ⟨k1, (fun e he => absurd he (List.not_mem_nil)), hbl⟩
    (fun x a' W => ∃ bx, W.heap[bx]? = some (.cells x.2.1.cells 29 (0, 0)) ∧ a' = { tmps := #[tmV t tp tc rp rc p c, .pointer (some ⟨w.heap.size, 0, none⟩), .pointer (some ⟨w.heap.size + 1, 0, none⟩), .pointer (some ⟨bx, 0, none⟩),
      tmV t tp tc rp rc p c, iterM Bt Bp, x.2.1, .int .i64 (x.2.2 : Nat), undef, undef, undef], defers := [] })
    (fun x a' W l r o h hl => by
      obtain ⟨bx, h2, h3⟩ := h
      exact ⟨bx, (World.putObj_heap_other (fun e => by rw [e, hl] at h2; cases h2)).trans h2, h3⟩) ?assign ?body ?done ?stop
  case assign =>
    rintro l ⟨x, v, d⟩ W K hG hK
    have hG : TM W _ x v := hG
    obtain ⟨tp', tc', rp', rc', p', c', rfl, hG'⟩ := hG
    have HK := Lib.hid hK
    clear hK
    gi_wp2
    exact HK.out _ _ ((Below.refl _ _).alloc (Nat.le_refl _) _) ⟨W.heap.size, blk_new _ _, by simp⟩
  case body =>
    rintro l pre ⟨x, v, d⟩ a' W ⟨hr, hso, hB⟩ hpre hG ⟨bx, hbx, rfl⟩
    have hpre : pre ++ [(x, d)] <+: walkM t 1 := hpre
    have hbx : W.heap[bx]? = some (.cells v.cells 29 (0, 0)) := hbx
    have hG : TM W _ x v := hG
    obtain ⟨tp', tc', rp', rc', p', c', rfl, hG'⟩ := hG
    simp only [Value.cells] at hbx
    obtain ⟨x0, x1, x2, x3, x4, x5, x6, x7, x8⟩ := Bx9.of hbx
    have hxw : x.wt ≤ 2097152 := by
      have h1 := wt_walk t 1 (x, d) (hpre.subset (by simp))
      have h2 := HWT.out
      simp only at h1
      omega
    have HC := Lib.hid (formI_any W (HKA.out W hB) hG' hxw)
    have HR1 := Lib.hid hr
    have HB1 := Lib.hid hB
    have HSO := Lib.hid hso
    have HP := Lib.hid hpre
    clear hso hpre hr hbx hB k1 hG' HSL hbl hbw hI hxw
    gi_wp2_with fail
    refine ⟨trivial, rfl, ?_⟩
    refine (CallsIn.inRound l (callsIn_wide.2 HC.out)).mono ?_
    rintro e W2 ⟨b, hb, rfl, hb2⟩
    have l2 := (Array.getElem?_eq_some_iff.1 HR1.out).1
    have HR2 := Lib.hid ((hb2.block _ l2).trans HR1.out)
    have r2 := cell_of_blk HR2.out 0
    have rz := unfrozen_of_blk HR2.out 0
    simp only [List.getElem?_toArray, List.getElem?_cons_zero] at r2
    have hH2 : Holds (fun b => b = w.heap.size + 1) W W2 := .of_below hb2
    have hB2 : Below w.heap.size w W2 := HB1.out.trans (hb2.mono HB1.out.size)
    have HBB := Lib.hid hb
    have HH2 := Lib.hid hH2
    have HB2 := Lib.hid hB2
    clear hb hb2 hH2 hB2 x0 x1 x2 x3 x4 x5 x6 x7 x8 l2
    cases b with
    | false =>
      have hcc := World.cell?_setCell_same' W2 ⟨w.heap.size + 1, 0, none⟩ (.bool false) (by rw [r2]; rfl)
      have HCC := Lib.hid hcc
      clear hcc
      gi_wp2_with fail
      exact ⟨HH2.out.setCell ⟨w.heap.size + 1, 0, none⟩ rfl _, rfl, HCC.out, not_isT_at HP.out (fun h => by have := HBB.out.2 h; cases this), HB2.out.setCell (p := ⟨w.heap.size + 1, 0, none⟩) (by show w.heap.size ≤ w.heap.size + 1; omega) _⟩
    | true =>
      gi_wp2_with fail
      exact ⟨HH2.out, HR2.out, HSO.out.next (HBB.out.1 (by trivial)), HB2.out⟩
  case done =>
    rintro D W hD ⟨hr, hso, hB⟩ hK
    have r0 := cell_of_blk hr 0
    have rz := unfrozen_of_blk hr 0
    simp only [List.getElem?_toArray, List.getElem?_cons_zero] at r0
    have HV := Lib.hid (isT_of hso)
    have HB := Lib.hid hB
    have hK' : (W.setCell ⟨w.heap.size + 1, 0, none⟩ (.bool true)).heap[D]? = some (.deferred (some [])) := (Below.heap_setCell _ _ _ _ (by show D ≠ w.heap.size + 1; omega)).trans hK
    clear hso hB hr hK k1 HSL hbl hbw hI
    gi_wp2_with fail
    refine ⟨by simp, .inl ⟨_, _, rfl, run_takeDeferred hK', ?_⟩⟩
    have hc := (World.cell?_of_block (a := ⟨w.heap.size + 1, 0, none⟩) (w' := (W.setCell ⟨w.heap.size + 1, 0, none⟩ (.bool true)).putObj D (.deferred none)) (World.putObj_heap_other (by show w.heap.size + 1 ≠ D; omega))).trans (World.cell?_setCell_same' W ⟨w.heap.size + 1, 0, none⟩ (.bool true) (by rw [r0]; rfl))
    refine ⟨.bool true, ?_, _, ⟨fun _ => HV.out, fun _ => rfl⟩, rfl, (HB.out.setCell (p := ⟨w.heap.size + 1, 0, none⟩) (by show w.heap.size ≤ w.heap.size + 1; omega) _).trans (below_putObj _ _ _ _ (by omega))⟩
    rw [results_cell1 rfl]
    go_simp
  case stop =>
    rintro D c pre W hD hpre ⟨rfl, hr, hv, hB⟩ hK
    have HB := Lib.hid hB
    have HV := Lib.hid hv
    clear hv hB k1 HSL hbl hbw hI
    gi_wp2_with fail
    refine ⟨by simp, .inl ⟨_, _, rfl, run_takeDeferred hK, ?_⟩⟩
    have hc := (World.cell?_of_block (a := ⟨w.heap.size + 1, 0, none⟩) (w' := W.putObj D (.deferred none)) (World.putObj_heap_other (by show w.heap.size + 1 ≠ D; omega))).trans hr
    refine ⟨.bool false, ?_, _, ⟨fun h => by simp at h, fun h => absurd h HV.out⟩, rfl, HB.out.trans (below_putObj _ _ _ _ (by omega))⟩
    rw [results_cell1 rfl]
    go_simp
set_option maxRecDepth 100000 in
theorem validTermI_any {C : Nat → Prop} {t : Tm} {v : Value} {w : World} (hka : KA w) (h : TM w C t v) (hn : t.wt ≤ 2097152) :
    Calls Tryz.prog 22 #[v] w (Tells t.Valid w) := by
  have hnt : t.nodes ≤ 2097153 := by have := t.nodes_wt; omega
  have HKA := Lib.hid (fun (w' : World) (hb : Below w.heap.size w w') => hka.below hb)
  have HWT := Lib.hid hn
  clear hka hn
  obtain ⟨tp, tc, rp, rc, p, c, rfl, hT⟩ := h
  have hb0 := al_below w (.cells (tmC t tp tc rp rc p c) 29)
  have HT := Lib.hid (tnM_any (hT.stays (.of_below hb0)))
  have HB0 := Lib.hid hb0
  clear hT hb0
  obtain ⟨ok, hok⟩ := ok_ex
  have HOK := Lib.hid hok
  clear hok
  go_enter Tryz.func22, Tryz.ntmps22
  go_wp2_with fail
  refine HT.out.mono ?_
  rintro e w1 ⟨Bt, Bp, rfl, hI, hb, -⟩
  have HI := Lib.hid hI
  have HB := Lib.hid (HB0.out.trans (hb.mono HB0.out.size))
  clear hI hb
  go_wp2_with fail
  refine (withinM_any HI.out hnt 52 ok 80 20 (enters_of Tryz.func52 (by kernel_rfl) rfl) (fun x v d W hm hx hbW => ?_)).mono ?_
  · obtain ⟨_, _, _, _, _, _, rfl, hG⟩ := (show TM W _ x v from hx)
    have h1 := wt_walk t 1 (x, d) hm
    refine (formI_any W (HKA.out W (HB.out.trans (hbW.mono HB.out.size))) hG (by have := HWT.out; simp only at h1; omega)).mono ?_
    rintro e w' ⟨r, hr, rfl, hw⟩
    exact ⟨r, Bool.eq_iff_iff.2 (hr.trans (HOK.out x).symm), rfl, hw⟩
  rintro e w2 ⟨r, hr, rfl, hb2⟩
  have HR := Lib.hid (hr.trans (validM_walk t HOK.out).symm)
  have HB2 := Lib.hid (HB.out.trans (hb2.mono HB.out.size))
  clear hr hb2
  go_wp2_with fail
  go_ret
  exact ⟨_, HR.out, rfl, HB2.out⟩
end Go.Proofs.YtjobmgbchpoheaaGreatDoor
