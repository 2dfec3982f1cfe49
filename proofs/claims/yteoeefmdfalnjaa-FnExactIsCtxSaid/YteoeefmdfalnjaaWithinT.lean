/-
  The contract of the program's withinLimits at a type (genwithin.py writes this text).
-/
import Derived.Test.YteoeefmdfalnjaaSizesT
import Derived.Lib.SmallJoins
namespace Go.Proofs.Yteoeefmdfalnjaa
open Go Go.RowKit Go.Shelf
attribute [local go_sem] Oper.semAt_some

/-- What the loop has found: all so far are right. -/
def SoFarT (ok : Ty → Bool) (ms md : Nat) (pre : List (Ty × Nat)) : Prop := (∀ e ∈ pre, ok e.1 = true ∧ e.2 ≤ md) ∧ pre.length ≤ ms
theorem soFarT_nil (ok : Ty → Bool) (ms md : Nat) : SoFarT ok ms md [] := ⟨by simp, by simp⟩
theorem SoFarT.next {ok : Ty → Bool} {ms md : Nat} {pre : List (Ty × Nat)} {x : Ty} {d : Nat} (h : SoFarT ok ms md pre) (h1 : ok x = true) (h2 : d ≤ md) (h3 : pre.length + 1 ≤ ms) : SoFarT ok ms md (pre ++ [(x, d)]) := by
  refine ⟨fun e he => ?_, by rw [List.length_append, List.length_singleton]; exact h3⟩
  rcases List.mem_append.1 he with he | he
  · exact h.1 e he
  · simp only [List.mem_singleton] at he; subst he; exact ⟨h1, h2⟩
theorem SoFarT.not {ok : Ty → Bool} {ms md : Nat} {t x : Ty} {d : Nat} {pre : List (Ty × Nat)} (h : pre ++ [(x, d)] <+: walkT t 1) (hb : ¬ (ok x = true ∧ d ≤ md ∧ pre.length + 1 ≤ ms)) : ¬ ((∀ e ∈ walkT t 1, ok e.1 = true ∧ e.2 ≤ md) ∧ t.nodes ≤ ms) := by
  rintro ⟨h1, h2⟩
  obtain ⟨h3, h4⟩ := h1 (x, d) (h.subset (by simp))
  have h5 := h.length_le
  rw [walkT_length, List.length_append, List.length_singleton] at h5
  exact hb ⟨h3, h4, by omega⟩

set_option maxRecDepth 100000 in
set_option maxHeartbeats 2000000 in
theorem withinT_any {t : Ty} {p : Option Addr} {c : Nat} {Bt Bp : Nat} {w : World} (h : IterT w t p c Bt Bp) (hn : t.nodes ≤ 2097153) (pf : FuncId) (ok : Ty → Bool) (ms md : Nat) (hpe : ∀ args w, (callFunc pf args).run Try.prog w = .ok (.enter pf args) w)
    (hp : ∀ (x : Ty) (v : Value) (d : Nat) (W : World), (x, d) ∈ walkT t 1 → NT W (· < w.heap.size) x v → Below w.heap.size w W → Calls Try.prog pf #[v] W (BoolRet (fun b => b = ok x) W)) :
    Calls Try.prog 38 #[iterT Bt Bp, .func (.func pf) #[] #[], .int .i64 (ms : Nat), .int .i64 (md : Nat)] w (BoolRet (fun r => r = true ↔ (∀ e ∈ walkT t 1, ok e.1 = true ∧ e.2 ≤ md) ∧ t.nodes ≤ ms) w) := by
  have HI := Lib.hid h
  have HPF := Lib.hid hp
  have HPE := Lib.hid hpe
  clear h hp hpe
  refine (callsIn_wide (n := 2)).1 ?_
  refine callsIn_of_wp_marks Try.func38 rfl trivial ?_ rfl
  simp only [Try.ntmps38, List.size_toArray, List.length_cons, List.length_nil, Nat.reduceAdd, Nat.reduceSub, Array.replicate_succ, Array.replicate_zero, List.push_toArray, List.append_toArray, List.nil_append, List.cons_append]
  gi_wp2_with fail
  obtain ⟨wl, hwl, hsz, hbl, k0, k1, k2, k3, k4⟩ := box_new5 w #[.func (.func pf) #[] #[]] #[.int .i64 (ms : Nat)] #[.int .i64 (md : Nat)] #[.bool false] #[.int .i64 0] 44 3 3 4 3
  rw [hwl]
  refine range_law (F := Fence.wide) (n := 2) rfl (by omega) (gf := 50) (lb := #[.pointer (some ⟨Bt, 0, none⟩), .pointer (some ⟨Bp, 0, none⟩)]) rfl trivial (enters_of Try.func50 (by kernel_rfl) rfl)
    (nodesT_seq HI.out hn hbl (fun b => b = w.heap.size + 3 ∨ b = w.heap.size + 4) (fun b h => by omega)) (fun _ => rfl) (fun b h => by omega)
    (fun pre W => W.heap[w.heap.size]? = some (.cells #[.func (.func pf) #[] #[]] 44 (0, 0)) ∧ W.heap[w.heap.size + 1]? = some (.cells #[.int .i64 (ms : Nat)] 3 (0, 0)) ∧ W.heap[w.heap.size + 1 + 1]? = some (.cells #[.int .i64 (md : Nat)] 3 (0, 0)) ∧
      W.heap[w.heap.size + 1 + 1 + 1]? = some (.cells #[.bool false] 4 (0, 0)) ∧ W.heap[w.heap.size + 1 + 1 + 1 + 1]? = some (.cells #[.int .i64 (pre.length : Nat)] 3 (0, 0)) ∧ SoFarT ok ms md pre ∧ Below w.heap.size w W)
    (fun j pre W => j = .ret ∧ W.cell? ⟨w.heap.size + 1 + 1 + 1, 0, none⟩ = some (.bool false) ∧ ¬ ((∀ e ∈ walkT t 1, ok e.1 = true ∧ e.2 ≤ md) ∧ t.nodes ≤ ms) ∧ Below w.heap.size w W)
    (fun pre A B h hb => ⟨(hb.block _ (by omega)).trans h.1, (hb.block _ (by omega)).trans h.2.1, (hb.block _ (by omega)).trans h.2.2.1, (hb.block _ (by omega)).trans h.2.2.2.1, (hb.block _ (by omega)).trans h.2.2.2.2.1, h.2.2.2.2.2.1, h.2.2.2.2.2.2.trans (hb.mono (by omega))⟩)
    (fun j pre A B h hb => ⟨h.1, (hb.cell (by show w.heap.size + 1 + 1 + 1 < _; omega)).trans h.2.1, h.2.2.1, h.2.2.2.trans (hb.mono (by omega))⟩)
    (goodT_keep (fun b h => by omega)) ⟨k0, k1, k2, k3, k4, soFarT_nil ok ms md, hbl⟩
    (fun x a' W => ∃ bx, W.heap[bx]? = some (.cells x.2.1.cells 41 (0, 0)) ∧ a' = { tmps := #[iterT Bt Bp, .func (.func pf) #[] #[], .int .i64 (ms : Nat), .int .i64 (md : Nat), undef, .pointer (some ⟨w.heap.size, 0, none⟩), .pointer (some ⟨w.heap.size + 1, 0, none⟩), .pointer (some ⟨w.heap.size + 1 + 1, 0, none⟩), .pointer (some ⟨w.heap.size + 1 + 1 + 1, 0, none⟩), .pointer (some ⟨w.heap.size + 1 + 1 + 1 + 1, 0, none⟩),
      .pointer (some ⟨bx, 0, none⟩), .int .i64 (x.2.2 : Nat), iterT Bt Bp, x.2.1, .int .i64 (x.2.2 : Nat), undef, undef, undef, undef, undef, undef, undef, undef, undef, undef, undef, undef, undef, undef, undef, undef], defers := [] })
    (fun x a' W l r o h hl => by
      obtain ⟨bx, h2, h3⟩ := h
      exact ⟨bx, (World.putObj_heap_other (fun e => by rw [e, hl] at h2; cases h2)).trans h2, h3⟩) ?assign ?body ?done ?stop
  case assign =>
    rintro l ⟨x, v, d⟩ W K hG hK
    have hG : TT W (· < w.heap.size) x v := hG
    obtain ⟨s', rfl, hG'⟩ := hG
    obtain ⟨p', c', rfl⟩ := hG'.form
    have HK := Lib.hid hK
    clear hK
    gi_wp2
    exact HK.out _ _ ((Below.refl _ _).alloc (Nat.le_refl _) _) ⟨W.heap.size, blk_new _ _, by simp⟩
  case body =>
    rintro l pre ⟨x, v, d⟩ a' W ⟨hf, hms', hmd', hr, hs, hso, hB⟩ hpre hG ⟨bx, hbx, rfl⟩
    have hpre : pre ++ [(x, d)] <+: walkT t 1 := hpre
    have hbx : W.heap[bx]? = some (.cells v.cells 41 (0, 0)) := hbx
    have hlen := walkT_pre hpre hn
    rw [List.length_append, List.length_singleton] at hlen
    have hd : d ≤ 2097153 := by
      have h1 := maxdT_prefix hpre
      have h2 := maxdT_walk t 1
      have h3 := t.depth_nodes
      rw [maxdT_snoc] at h1
      simp only at h1
      omega
    have hmem : (x, d) ∈ walkT t 1 := hpre.subset (by simp)
    have hG : TT W (· < w.heap.size) x v := hG
    obtain ⟨s', rfl, hG'⟩ := hG
    obtain ⟨p', c', rfl⟩ := hG'.form
    simp only [Value.cells] at hbx
    have s0 := cell_of_blk hs 0
    have sz := unfrozen_of_blk hs 0
    have f0 := cell_of_blk hf 0
    have x0 := cell_of_blk hbx 0
    have x1 := cell_of_blk hbx 1
    simp only [List.getElem?_toArray, List.getElem?_cons_zero, List.getElem?_cons_succ] at x0 x1
    simp only [List.getElem?_toArray, List.getElem?_cons_zero] at s0 f0
    let W1 := W.setCell ⟨w.heap.size + 1 + 1 + 1 + 1, 0, none⟩ (.int .i64 ((pre.length : Nat) + 1))
    have hne : bx ≠ w.heap.size + 1 + 1 + 1 + 1 := fun e => by rw [e, hs] at hbx; simp at hbx
    have hs1 : W1.heap[w.heap.size + 1 + 1 + 1 + 1]? = some (.cells #[.int .i64 ((pre.length : Nat) + 1)] 3 (0, 0)) := by
      rw [show W1 = W.setCell ⟨w.heap.size + 1 + 1 + 1 + 1, 0, none⟩ (.int .i64 ((pre.length : Nat) + 1)) from rfl, Go.Joins.block_setCell hs]; rfl
    have oth : ∀ b, b ≠ w.heap.size + 1 + 1 + 1 + 1 → W1.heap[b]? = W.heap[b]? := fun b hb => Below.heap_setCell _ _ _ _ hb
    have hH1 : Holds (fun b => b = w.heap.size + 3 ∨ b = w.heap.size + 4) W W1 := Holds.setCell (Holds.refl _ W) ⟨w.heap.size + 1 + 1 + 1 + 1, 0, none⟩ (Or.inr rfl) _
    have hB1 : Below w.heap.size w W1 := hB.setCell (p := ⟨w.heap.size + 1 + 1 + 1 + 1, 0, none⟩) (by show w.heap.size ≤ w.heap.size + 1 + 1 + 1 + 1; omega) _
    have hG1 : NT W1 (· < w.heap.size) x (.agg #[.int .i64 x.kind, .slice p' x.args.length c']) := nstaysT (ntT_mk hG') ⟨hH1.1, fun b hb _ => oth b (by omega)⟩
    have HC := Lib.hid (HPF.out x _ d W1 hmem hG1 hB1)
    have HF1 := Lib.hid ((oth _ (by omega)).trans hf)
    have HMS := Lib.hid ((oth _ (by omega)).trans hms')
    have HMD := Lib.hid ((oth _ (by omega)).trans hmd')
    have HR1 := Lib.hid ((oth _ (by omega)).trans hr)
    have HS1 := Lib.hid hs1
    have HH1 := Lib.hid hH1
    have HB1 := Lib.hid hB1
    have HSO := Lib.hid hso
    have HP := Lib.hid hpre
    have HMEM := Lib.hid hmem
    clear hs1 hH1 hB1 hso hpre hs hr hf hms' hmd' hbx hB k0 k1 k2 k3 k4 hG' hG1 hbl hwl oth hmem
    gi_wp2_with fail
    refine ⟨trivial, ?_⟩
    rw [HPE.out]
    refine ⟨(fun h => by cases h), ?_⟩
    refine (CallsIn.inRound l (callsIn_wide.2 HC.out)).mono ?_
    rintro e W2 ⟨b, hb, rfl, hb2⟩
    have l1 := (Array.getElem?_eq_some_iff.1 HS1.out).1
    have l2 := (Array.getElem?_eq_some_iff.1 HR1.out).1
    have l3 := (Array.getElem?_eq_some_iff.1 HMS.out).1
    have l4 := (Array.getElem?_eq_some_iff.1 HMD.out).1
    have l5 := (Array.getElem?_eq_some_iff.1 HF1.out).1
    have s2 := cell_of_blk ((hb2.block _ l1).trans HS1.out) 0
    have r2 := cell_of_blk ((hb2.block _ l2).trans HR1.out) 0
    have rz := unfrozen_of_blk ((hb2.block _ l2).trans HR1.out) 0
    have m2 := cell_of_blk ((hb2.block _ l3).trans HMS.out) 0
    have n2 := cell_of_blk ((hb2.block _ l4).trans HMD.out) 0
    simp only [List.getElem?_toArray, List.getElem?_cons_zero] at s2 r2 m2 n2
    have HF2 := Lib.hid ((hb2.block _ l5).trans HF1.out)
    have HMS2 := Lib.hid ((hb2.block _ l3).trans HMS.out)
    have HMD2 := Lib.hid ((hb2.block _ l4).trans HMD.out)
    have HS2 := Lib.hid ((hb2.block _ l1).trans HS1.out)
    have HR2 := Lib.hid ((hb2.block _ l2).trans HR1.out)
    have hH2 : Holds (fun b => b = w.heap.size + 3 ∨ b = w.heap.size + 4) W W2 := HH1.out.trans (.of_below hb2)
    have hB2 : Below w.heap.size w W2 := HB1.out.trans (hb2.mono HB1.out.size)
    have finR : ¬ (ok x = true ∧ d ≤ md ∧ pre.length + 1 ≤ ms) → Holds (fun b => b = w.heap.size + 3 ∨ b = w.heap.size + 4) W (W2.setCell ⟨w.heap.size + 1 + 1 + 1, 0, none⟩ (.bool false)) ∧
        ((W2.setCell ⟨w.heap.size + 1 + 1 + 1, 0, none⟩ (.bool false)).cell? ⟨w.heap.size + 1 + 1 + 1, 0, none⟩ = some (.bool false) ∧ ¬ ((∀ e ∈ walkT t 1, ok e.1 = true ∧ e.2 ≤ md) ∧ t.nodes ≤ ms) ∧ Below w.heap.size w (W2.setCell ⟨w.heap.size + 1 + 1 + 1, 0, none⟩ (.bool false))) := fun hv =>
      ⟨hH2.setCell ⟨w.heap.size + 1 + 1 + 1, 0, none⟩ (Or.inl rfl) _, World.cell?_setCell_same' _ _ _ (by rw [r2]; rfl), SoFarT.not HP.out hv, hB2.setCell (p := ⟨w.heap.size + 1 + 1 + 1, 0, none⟩) (by show w.heap.size ≤ w.heap.size + 1 + 1 + 1; omega) _⟩
    have finN : ok x = true → d ≤ md → pre.length + 1 ≤ ms → Holds (fun b => b = w.heap.size + 3 ∨ b = w.heap.size + 4) W W2 ∧
        (W2.heap[w.heap.size]? = some (.cells #[.func (.func pf) #[] #[]] 44 (0, 0)) ∧ W2.heap[w.heap.size + 1]? = some (.cells #[.int .i64 (ms : Nat)] 3 (0, 0)) ∧ W2.heap[w.heap.size + 1 + 1]? = some (.cells #[.int .i64 (md : Nat)] 3 (0, 0)) ∧
        W2.heap[w.heap.size + 1 + 1 + 1]? = some (.cells #[.bool false] 4 (0, 0)) ∧ W2.heap[w.heap.size + 1 + 1 + 1 + 1]? = some (.cells #[.int .i64 ((pre ++ [(x, d)]).length : Nat)] 3 (0, 0)) ∧ SoFarT ok ms md (pre ++ [(x, d)]) ∧ Below w.heap.size w W2) := fun h1 h2 h3 =>
      ⟨hH2, HF2.out, HMS2.out, HMD2.out, HR2.out, by rw [HS2.out, List.length_append, List.length_singleton]; rfl, HSO.out.next h1 h2 h3, hB2⟩
    have FR := Lib.hid finR
    have FN := Lib.hid finN
    have HBB := Lib.hid hb
    clear finR finN hH2 hB2 hb2 hb s0 sz f0 x0 x1 l1 l2 l3 l4 l5
    have d0 : (0 : Int) ≤ (d : Int) := Int.natCast_nonneg _
    cases b with
    | true =>
      by_cases h30 : (ms : Int) < (pre.length : Int) + 1
      · gi_wp2_with fail
        exact (fun h => ⟨h.1, rfl, h.2⟩) (FR.out (fun h => by omega))
      · by_cases h8 : (md : Int) < (d : Int)
        · gi_wp2_with fail
          exact (fun h => ⟨h.1, rfl, h.2⟩) (FR.out (fun h => by omega))
        · gi_wp2_with fail
          exact FN.out HBB.out.symm (by omega) (by omega)
    | false =>
      gi_wp2_with fail
      exact (fun h => ⟨h.1, rfl, h.2⟩) (FR.out (fun h => by have := HBB.out; rw [h.1] at this; exact absurd this (by decide)))
  case done =>
    rintro D W hD ⟨_, _, _, hr, _, hso, hB⟩ hK
    have r0 := cell_of_blk hr 0
    have rz := unfrozen_of_blk hr 0
    simp only [List.getElem?_toArray, List.getElem?_cons_zero] at r0
    have HV := Lib.hid (show (∀ e ∈ walkT t 1, ok e.1 = true ∧ e.2 ≤ md) ∧ t.nodes ≤ ms from ⟨hso.1, by have := hso.2; rwa [walkT_length] at this⟩)
    have HB := Lib.hid hB
    have HK := Lib.hid hK
    have hK' : (W.setCell ⟨w.heap.size + 1 + 1 + 1, 0, none⟩ (.bool true)).heap[D]? = some (.deferred (some [])) := (Below.heap_setCell _ _ _ _ (by show D ≠ w.heap.size + 1 + 1 + 1; omega)).trans hK
    clear hso hB hr hK k0 k1 k2 k3 k4 hbl hwl
    gi_wp2_with fail
    refine ⟨by simp, .inl ⟨_, _, rfl, run_takeDeferred hK', ?_⟩⟩
    have hc := (World.cell?_of_block (a := ⟨w.heap.size + 1 + 1 + 1, 0, none⟩) (w' := (W.setCell ⟨w.heap.size + 1 + 1 + 1, 0, none⟩ (.bool true)).putObj D (.deferred none)) (World.putObj_heap_other (by show w.heap.size + 1 + 1 + 1 ≠ D; omega))).trans (World.cell?_setCell_same' W ⟨w.heap.size + 1 + 1 + 1, 0, none⟩ (.bool true) (by rw [r0]; rfl))
    refine ⟨.bool true, ?_, _, ⟨fun _ => HV.out, fun _ => rfl⟩, rfl, (HB.out.setCell (p := ⟨w.heap.size + 1 + 1 + 1, 0, none⟩) (by show w.heap.size ≤ w.heap.size + 1 + 1 + 1; omega) _).trans (below_putObj _ _ _ _ (by omega))⟩
    rw [results_cell1 rfl]
    go_simp
  case stop =>
    rintro D c pre W hD hpre ⟨rfl, hr, hv, hB⟩ hK
    have HB := Lib.hid hB
    have HV := Lib.hid hv
    clear hv hB k0 k1 k2 k3 k4 hbl hwl
    gi_wp2_with fail
    refine ⟨by simp, .inl ⟨_, _, rfl, run_takeDeferred hK, ?_⟩⟩
    have hc := (World.cell?_of_block (a := ⟨w.heap.size + 1 + 1 + 1, 0, none⟩) (w' := W.putObj D (.deferred none)) (World.putObj_heap_other (by show w.heap.size + 1 + 1 + 1 ≠ D; omega))).trans hr
    refine ⟨.bool false, ?_, _, ⟨fun h => by simp at h, fun h => absurd h HV.out⟩, rfl, HB.out.trans (below_putObj _ _ _ _ (by omega))⟩
    rw [results_cell1 rfl]
    go_simp
#print axioms withinT_any
end Go.Proofs.Yteoeefmdfalnjaa

