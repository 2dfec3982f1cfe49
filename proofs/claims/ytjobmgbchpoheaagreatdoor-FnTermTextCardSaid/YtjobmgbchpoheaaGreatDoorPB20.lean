/-
  Several texts of the proof in one (each says below what it holds): WithinT ValidT TextS ParseS ParseI.
-/
import Derived.Test.YtjobmgbchpoheaaGreatDoorPB19
import Derived.Test.YtjobmgbchpoheaaGreatDoorPB2
import Derived.Test.YtjobmgbchpoheaaGreatDoorPB1
import Derived.Test.YtjobmgbchpoheaaGreatDoorPB5
import Derived.Test.YtjobmgbchpoheaaGreatDoorPB6
import Derived.Lib.SmallJoins
import Derived.RegionTactic
import Derived.ChangeAlike
import Derived.Laws.EntriesVeiled
namespace Go.Proofs.YtjobmgbchpoheaaGreatDoor
open Go Go.RowKit Go.Shelf
attribute [local go_sem] Oper.semAt_some
def SoFarT (ok : Ty → Bool) (ms md : Nat) (pre : List (Ty × Nat)) : Prop := (∀ e ∈ pre, ok e.1 = true ∧ e.2 ≤ md) ∧ pre.length ≤ ms
theorem soFarT_nil (ok : Ty → Bool) (ms md : Nat) : SoFarT ok ms md [] := ⟨by simp, by simp⟩
theorem SoFarT.next {ok : Ty → Bool} {ms md : Nat} {pre : List (Ty × Nat)} {x : Ty} {d : Nat} (h : SoFarT ok ms md pre) (h1 : ok x = true) (h2 : d ≤ md) (h3 : pre.length + 1 ≤ ms) : SoFarT ok ms md (pre ++ [(x, d)]) := by
  refine ⟨fun e he => ?_, by rw [List.length_append, List.length_singleton]; exact h3⟩
  rcases List.mem_append.1 he with he | he
  · exact h.1 e he
  · simp only [List.mem_singleton] at he; subst he; exact ⟨h1, h2⟩
theorem SoFarT.not {ok : Ty → Bool} {ms md : Nat} {t x : Ty} {d : Nat} {pre : List (Ty × Nat)} (h : pre ++ [(x, d)] <+: walkT t 1) (hb : ¬ (ok x = true ∧ d ≤ md ∧ pre.length + 1 ≤ ms)) : ¬ ((∀ e ∈ walkT t 1, ok e.1 = true ∧ e.2 ≤ md) ∧ t.nodes ≤ ms) := by
  rintro ⟨h1, h2⟩
  obtain ⟨h3, h4⟩ := h1 (x, d) (h.subset (by simp))
  have h5 := h.length_le
  rw [walkT_length, List.length_append, List.length_singleton] at h5
  exact hb ⟨h3, h4, by omega⟩

set_option maxRecDepth 100000 in
set_option maxHeartbeats 2000000 in
theorem withinT_any {t : Ty} {p : Option Addr} {c : Nat} {Bt Bp : Nat} {w : World} (h : IterT w t p c Bt Bp) (hn : t.nodes ≤ 2097153) (pf : FuncId) (ok : Ty → Bool) (ms md : Nat) (hpe : ∀ args w, (callFunc pf args).run Tryz.prog w = .ok (.enter pf args) w)
    (hp : ∀ (x : Ty) (v : Value) (d : Nat) (W : World), (x, d) ∈ walkT t 1 → NT W (· < w.heap.size) x v → Below w.heap.size w W → Calls Tryz.prog pf #[v] W (BoolRet (fun b => b = ok x) W)) :
    Calls Tryz.prog 126 #[iterT Bt Bp, .func (.func pf) #[] #[], .int .i64 (ms : Nat), .int .i64 (md : Nat)] w (BoolRet (fun r => r = true ↔ (∀ e ∈ walkT t 1, ok e.1 = true ∧ e.2 ≤ md) ∧ t.nodes ≤ ms) w) := by
  have HI := Lib.hid h
  have HPF := Lib.hid hp
  have HPE := Lib.hid hpe
  clear h hp hpe
  refine (callsIn_wide (n := 2)).1 ?_
  refine callsIn_of_wp_marks Tryz.func126 rfl trivial ?_ rfl
  simp only [Tryz.ntmps126, List.size_toArray, List.length_cons, List.length_nil, Nat.reduceAdd, Nat.reduceSub, Array.replicate_succ, Array.replicate_zero, List.push_toArray, List.append_toArray, List.nil_append, List.cons_append]
  gi_wp2_with fail
  obtain ⟨wl, hwl, hsz, hbl, k0, k1, k2, k3, k4⟩ := box_new5 w #[.func (.func pf) #[] #[]] #[.int .i64 (ms : Nat)] #[.int .i64 (md : Nat)] #[.bool false] #[.int .i64 0] 116 3 3 4 3
  rw [hwl]
  refine range_law (F := Fence.wide) (n := 2) rfl (by omega) (gf := 153) (lb := #[.pointer (some ⟨Bt, 0, none⟩), .pointer (some ⟨Bp, 0, none⟩)]) rfl trivial (enters_of Tryz.func153 (by kernel_rfl) rfl)
    (nodesT_seq HI.out hn hbl (fun b => b = w.heap.size + 3 ∨ b = w.heap.size + 4) (fun b h => by omega)) (fun _ => rfl) (fun b h => by omega)
    (fun pre W => W.heap[w.heap.size]? = some (.cells #[.func (.func pf) #[] #[]] 116 (0, 0)) ∧ W.heap[w.heap.size + 1]? = some (.cells #[.int .i64 (ms : Nat)] 3 (0, 0)) ∧ W.heap[w.heap.size + 1 + 1]? = some (.cells #[.int .i64 (md : Nat)] 3 (0, 0)) ∧
      W.heap[w.heap.size + 1 + 1 + 1]? = some (.cells #[.bool false] 4 (0, 0)) ∧ W.heap[w.heap.size + 1 + 1 + 1 + 1]? = some (.cells #[.int .i64 (pre.length : Nat)] 3 (0, 0)) ∧ SoFarT ok ms md pre ∧ Below w.heap.size w W)
    (fun j pre W => j = .ret ∧ W.cell? ⟨w.heap.size + 1 + 1 + 1, 0, none⟩ = some (.bool false) ∧ ¬ ((∀ e ∈ walkT t 1, ok e.1 = true ∧ e.2 ≤ md) ∧ t.nodes ≤ ms) ∧ Below w.heap.size w W)
    (fun pre A B h hb => ⟨(hb.block _ (by omega)).trans h.1, (hb.block _ (by omega)).trans h.2.1, (hb.block _ (by omega)).trans h.2.2.1, (hb.block _ (by omega)).trans h.2.2.2.1, (hb.block _ (by omega)).trans h.2.2.2.2.1, h.2.2.2.2.2.1, h.2.2.2.2.2.2.trans (hb.mono (by omega))⟩)
    (fun j pre A B h hb => ⟨h.1, (hb.cell (by show w.heap.size + 1 + 1 + 1 < _; omega)).trans h.2.1, h.2.2.1, h.2.2.2.trans (hb.mono (by omega))⟩)
    (goodT_keep (fun b h => by omega)) ⟨k0, k1, k2, k3, k4, soFarT_nil ok ms md, hbl⟩
    (fun x a' W => ∃ bx, W.heap[bx]? = some (.cells x.2.1.cells 26 (0, 0)) ∧ a' = { tmps := #[iterT Bt Bp, .func (.func pf) #[] #[], .int .i64 (ms : Nat), .int .i64 (md : Nat), undef, .pointer (some ⟨w.heap.size, 0, none⟩), .pointer (some ⟨w.heap.size + 1, 0, none⟩), .pointer (some ⟨w.heap.size + 1 + 1, 0, none⟩), .pointer (some ⟨w.heap.size + 1 + 1 + 1, 0, none⟩), .pointer (some ⟨w.heap.size + 1 + 1 + 1 + 1, 0, none⟩),
      .pointer (some ⟨bx, 0, none⟩), .int .i64 (x.2.2 : Nat), iterT Bt Bp, x.2.1, .int .i64 (x.2.2 : Nat), undef, undef, undef, undef, undef, undef, undef, undef, undef, undef, undef, undef, undef, undef, undef, undef], defers := [] })
    (fun x a' W l r o h hl => by
      obtain ⟨bx, h2, h3⟩ := h
      exact ⟨bx, (World.putObj_heap_other (fun e => by rw [e, hl] at h2; cases h2)).trans h2, h3⟩) ?assign ?body ?done ?stop
  case assign =>
    rintro l ⟨x, v, d⟩ W K hG hK
    have hG : TT W (· < w.heap.size) x v := hG
    obtain ⟨s', rfl, hG'⟩ := hG
    obtain ⟨p', c', rfl⟩ := hG'.form
    have HK := Lib.hid hK
    clear hK
    gi_wp2
    exact HK.out _ _ ((Below.refl _ _).alloc (Nat.le_refl _) _) ⟨W.heap.size, blk_new _ _, by simp⟩
  case body =>
    rintro l pre ⟨x, v, d⟩ a' W ⟨hf, hms', hmd', hr, hs, hso, hB⟩ hpre hG ⟨bx, hbx, rfl⟩
    have hpre : pre ++ [(x, d)] <+: walkT t 1 := hpre
    have hbx : W.heap[bx]? = some (.cells v.cells 26 (0, 0)) := hbx
    have hlen := walkT_pre hpre hn
    rw [List.length_append, List.length_singleton] at hlen
    have hd : d ≤ 2097153 := by
      have h1 := maxdT_prefix hpre
      have h2 := maxdT_walk t 1
      have h3 := t.depth_nodes
      rw [maxdT_snoc] at h1
      simp only at h1
      omega
    have hmem : (x, d) ∈ walkT t 1 := hpre.subset (by simp)
    have hG : TT W (· < w.heap.size) x v := hG
    obtain ⟨s', rfl, hG'⟩ := hG
    obtain ⟨p', c', rfl⟩ := hG'.form
    simp only [Value.cells] at hbx
    have s0 := cell_of_blk hs 0
    have sz := unfrozen_of_blk hs 0
    have f0 := cell_of_blk hf 0
    have x0 := cell_of_blk hbx 0
    have x1 := cell_of_blk hbx 1
    simp only [List.getElem?_toArray, List.getElem?_cons_zero, List.getElem?_cons_succ] at x0 x1
    simp only [List.getElem?_toArray, List.getElem?_cons_zero] at s0 f0
    let W1 := W.setCell ⟨w.heap.size + 1 + 1 + 1 + 1, 0, none⟩ (.int .i64 ((pre.length : Nat) + 1))
    have hne : bx ≠ w.heap.size + 1 + 1 + 1 + 1 := fun e => by rw [e, hs] at hbx; simp at hbx
    have hs1 : W1.heap[w.heap.size + 1 + 1 + 1 + 1]? = some (.cells #[.int .i64 ((pre.length : Nat) + 1)] 3 (0, 0)) := by
      rw [show W1 = W.setCell ⟨w.heap.size + 1 + 1 + 1 + 1, 0, none⟩ (.int .i64 ((pre.length : Nat) + 1)) from rfl, Go.Joins.block_setCell hs]; rfl
    have oth : ∀ b, b ≠ w.heap.size + 1 + 1 + 1 + 1 → W1.heap[b]? = W.heap[b]? := fun b hb => Below.heap_setCell _ _ _ _ hb
    have hH1 : Holds (fun b => b = w.heap.size + 3 ∨ b = w.heap.size + 4) W W1 := Holds.setCell (Holds.refl _ W) ⟨w.heap.size + 1 + 1 + 1 + 1, 0, none⟩ (Or.inr rfl) _
    have hB1 : Below w.heap.size w W1 := hB.setCell (p := ⟨w.heap.size + 1 + 1 + 1 + 1, 0, none⟩) (by show w.heap.size ≤ w.heap.size + 1 + 1 + 1 + 1; omega) _
    have hG1 : NT W1 (· < w.heap.size) x (.agg #[.int .i64 x.kind, .slice p' x.args.length c']) := nstaysT (ntT_mk hG') ⟨hH1.1, fun b hb _ => oth b (by omega)⟩
    have HC := Lib.hid (HPF.out x _ d W1 hmem hG1 hB1)
    have HF1 := Lib.hid ((oth _ (by omega)).trans hf)
    have HMS := Lib.hid ((oth _ (by omega)).trans hms')
    have HMD := Lib.hid ((oth _ (by omega)).trans hmd')
    have HR1 := Lib.hid ((oth _ (by omega)).trans hr)
    have HS1 := Lib.hid hs1
    have HH1 := Lib.hid hH1
    have HB1 := Lib.hid hB1
    have HSO := Lib.hid hso
    have HP := Lib.hid hpre
    have HMEM := Lib.hid hmem
    clear hs1 hH1 hB1 hso hpre hs hr hf hms' hmd' hbx hB k0 k1 k2 k3 k4 hG' hG1 hbl hwl oth hmem
    gi_wp2_with fail
    refine ⟨trivial, ?_⟩
    rw [HPE.out]
    refine ⟨(fun h => by cases h), ?_⟩
    refine (CallsIn.inRound l (callsIn_wide.2 HC.out)).mono ?_
    rintro e W2 ⟨b, hb, rfl, hb2⟩
    have l1 := (Array.getElem?_eq_some_iff.1 HS1.out).1
    have l2 := (Array.getElem?_eq_some_iff.1 HR1.out).1
    have l3 := (Array.getElem?_eq_some_iff.1 HMS.out).1
    have l4 := (Array.getElem?_eq_some_iff.1 HMD.out).1
    have l5 := (Array.getElem?_eq_some_iff.1 HF1.out).1
    have s2 := cell_of_blk ((hb2.block _ l1).trans HS1.out) 0
    have r2 := cell_of_blk ((hb2.block _ l2).trans HR1.out) 0
    have rz := unfrozen_of_blk ((hb2.block _ l2).trans HR1.out) 0
    have m2 := cell_of_blk ((hb2.block _ l3).trans HMS.out) 0
    have n2 := cell_of_blk ((hb2.block _ l4).trans HMD.out) 0
    simp only [List.getElem?_toArray, List.getElem?_cons_zero] at s2 r2 m2 n2
    have HF2 := Lib.hid ((hb2.block _ l5).trans HF1.out)
    have HMS2 := Lib.hid ((hb2.block _ l3).trans HMS.out)
    have HMD2 := Lib.hid ((hb2.block _ l4).trans HMD.out)
    have HS2 := Lib.hid ((hb2.block _ l1).trans HS1.out)
    have HR2 := Lib.hid ((hb2.block _ l2).trans HR1.out)
    have hH2 : Holds (fun b => b = w.heap.size + 3 ∨ b = w.heap.size + 4) W W2 := HH1.out.trans (.of_below hb2)
    have hB2 : Below w.heap.size w W2 := HB1.out.trans (hb2.mono HB1.out.size)
    have finR : ¬ (ok x = true ∧ d ≤ md ∧ pre.length + 1 ≤ ms) → Holds (fun b => b = w.heap.size + 3 ∨ b = w.heap.size + 4) W (W2.setCell ⟨w.heap.size + 1 + 1 + 1, 0, none⟩ (.bool false)) ∧
        ((W2.setCell ⟨w.heap.size + 1 + 1 + 1, 0, none⟩ (.bool false)).cell? ⟨w.heap.size + 1 + 1 + 1, 0, none⟩ = some (.bool false) ∧ ¬ ((∀ e ∈ walkT t 1, ok e.1 = true ∧ e.2 ≤ md) ∧ t.nodes ≤ ms) ∧ Below w.heap.size w (W2.setCell ⟨w.heap.size + 1 + 1 + 1, 0, none⟩ (.bool false))) := fun hv =>
      ⟨hH2.setCell ⟨w.heap.size + 1 + 1 + 1, 0, none⟩ (Or.inl rfl) _, World.cell?_setCell_same' _ _ _ (by rw [r2]; rfl), SoFarT.not HP.out hv, hB2.setCell (p := ⟨w.heap.size + 1 + 1 + 1, 0, none⟩) (by show w.heap.size ≤ w.heap.size + 1 + 1 + 1; omega) _⟩
    have finN : ok x = true → d ≤ md → pre.length + 1 ≤ ms → Holds (fun b => b = w.heap.size + 3 ∨ b = w.heap.size + 4) W W2 ∧
        (W2.heap[w.heap.size]? = some (.cells #[.func (.func pf) #[] #[]] 116 (0, 0)) ∧ W2.heap[w.heap.size + 1]? = some (.cells #[.int .i64 (ms : Nat)] 3 (0, 0)) ∧ W2.heap[w.heap.size + 1 + 1]? = some (.cells #[.int .i64 (md : Nat)] 3 (0, 0)) ∧
        W2.heap[w.heap.size + 1 + 1 + 1]? = some (.cells #[.bool false] 4 (0, 0)) ∧ W2.heap[w.heap.size + 1 + 1 + 1 + 1]? = some (.cells #[.int .i64 ((pre ++ [(x, d)]).length : Nat)] 3 (0, 0)) ∧ SoFarT ok ms md (pre ++ [(x, d)]) ∧ Below w.heap.size w W2) := fun h1 h2 h3 =>
      ⟨hH2, HF2.out, HMS2.out, HMD2.out, HR2.out, by rw [HS2.out, List.length_append, List.length_singleton]; rfl, HSO.out.next h1 h2 h3, hB2⟩
    have FR := Lib.hid finR
    have FN := Lib.hid finN
    have HBB := Lib.hid hb
    clear finR finN hH2 hB2 hb2 hb s0 sz f0 x0 x1 l1 l2 l3 l4 l5
    have d0 : (0 : Int) ≤ (d : Int) := Int.natCast_nonneg _
    cases b with
    | true =>
      by_cases h30 : (ms : Int) < (pre.length : Int) + 1
      · gi_wp2_with fail
        exact (fun h => ⟨h.1, rfl, h.2⟩) (FR.out (fun h => by omega))
      · by_cases h8 : (md : Int) < (d : Int)
        · gi_wp2_with fail
          exact (fun h => ⟨h.1, rfl, h.2⟩) (FR.out (fun h => by omega))
        · gi_wp2_with fail
          exact FN.out HBB.out.symm (by omega) (by omega)
    | false =>
      gi_wp2_with fail
      exact (fun h => ⟨h.1, rfl, h.2⟩) (FR.out (fun h => by have := HBB.out; rw [h.1] at this; exact absurd this (by decide)))
  case done =>
    rintro D W hD ⟨_, _, _, hr, _, hso, hB⟩ hK
    have r0 := cell_of_blk hr 0
    have rz := unfrozen_of_blk hr 0
    simp only [List.getElem?_toArray, List.getElem?_cons_zero] at r0
    have HV := Lib.hid (show (∀ e ∈ walkT t 1, ok e.1 = true ∧ e.2 ≤ md) ∧ t.nodes ≤ ms from ⟨hso.1, by have := hso.2; rwa [walkT_length] at this⟩)
    have HB := Lib.hid hB
    have HK := Lib.hid hK
    have hK' : (W.setCell ⟨w.heap.size + 1 + 1 + 1, 0, none⟩ (.bool true)).heap[D]? = some (.deferred (some [])) := (Below.heap_setCell _ _ _ _ (by show D ≠ w.heap.size + 1 + 1 + 1; omega)).trans hK
    clear hso hB hr hK k0 k1 k2 k3 k4 hbl hwl
    gi_wp2_with fail
    refine ⟨by simp, .inl ⟨_, _, rfl, run_takeDeferred hK', ?_⟩⟩
    have hc := (World.cell?_of_block (a := ⟨w.heap.size + 1 + 1 + 1, 0, none⟩) (w' := (W.setCell ⟨w.heap.size + 1 + 1 + 1, 0, none⟩ (.bool true)).putObj D (.deferred none)) (World.putObj_heap_other (by show w.heap.size + 1 + 1 + 1 ≠ D; omega))).trans (World.cell?_setCell_same' W ⟨w.heap.size + 1 + 1 + 1, 0, none⟩ (.bool true) (by rw [r0]; rfl))
    refine ⟨.bool true, ?_, _, ⟨fun _ => HV.out, fun _ => rfl⟩, rfl, (HB.out.setCell (p := ⟨w.heap.size + 1 + 1 + 1, 0, none⟩) (by show w.heap.size ≤ w.heap.size + 1 + 1 + 1; omega) _).trans (below_putObj _ _ _ _ (by omega))⟩
    rw [results_cell1 rfl]
    go_simp
  case stop =>
    rintro D c pre W hD hpre ⟨rfl, hr, hv, hB⟩ hK
    have HB := Lib.hid hB
    have HV := Lib.hid hv
    clear hv hB k0 k1 k2 k3 k4 hbl hwl
    gi_wp2_with fail
    refine ⟨by simp, .inl ⟨_, _, rfl, run_takeDeferred hK, ?_⟩⟩
    have hc := (World.cell?_of_block (a := ⟨w.heap.size + 1 + 1 + 1, 0, none⟩) (w' := W.putObj D (.deferred none)) (World.putObj_heap_other (by show w.heap.size + 1 + 1 + 1 ≠ D; omega))).trans hr
    refine ⟨.bool false, ?_, _, ⟨fun h => by simp at h, fun h => absurd h HV.out⟩, rfl, HB.out.trans (below_putObj _ _ _ _ (by omega))⟩
    rw [results_cell1 rfl]
    go_simp
end Go.Proofs.YtjobmgbchpoheaaGreatDoor
namespace Go.Proofs.YtjobmgbchpoheaaGreatDoor
open Go Go.RowKit Go.Shelf
attribute [local go_sem] Oper.semAt_some
def okK (x : Ty) : Bool := if x.kind = 1 ∨ x.kind = 2 then x.args.length == 0 else if x.kind = 3 then x.args.length == 2 else x.kind == 4 && x.args.length == 1
theorem form_at (t : Ty) : t.form = (formS t.args && okK t) := by cases t; rw [Ty.form]; rfl
mutual
theorem form_walk : ∀ (t : Ty) (d : Nat), t.form = true ↔ ∀ e ∈ walkT t d, okK e.1 = true
  | .mk k ts, d => by
    have h := form_walkST ts (d + 1)
    rw [form_at, Bool.and_eq_true]
    simp only [Ty.args_mk, walkT, List.forall_mem_cons, h]
    exact And.comm
theorem form_walkST : ∀ (ts : List Ty) (d : Nat), formS ts = true ↔ ∀ e ∈ walkST ts d, okK e.1 = true
  | [], d => by simp [formS, walkST]
  | t :: ts, d => by
    have h1 := form_walkST ts d
    have h2 := form_walk t d
    simp only [formS, walkST, Bool.and_eq_true, List.forall_mem_append, h1, h2]
end
theorem valid_walk (t : Ty) : t.valid = true ↔ (∀ e ∈ walkT t 1, okK e.1 = true ∧ e.2 ≤ 8) ∧ t.nodes ≤ 30 := by
  have h1 := form_walk t 1
  have h2 : t.depth ≤ 8 ↔ ∀ e ∈ walkT t 1, e.2 ≤ 8 := by
    rw [← maxdT_le]
    have := maxdT_walk t 1
    omega
  simp only [Ty.valid, Bool.and_eq_true, decide_eq_true_eq]
  rw [h1, h2]
  constructor
  · rintro ⟨⟨a, b⟩, c⟩
    exact ⟨fun e he => ⟨c e he, b e he⟩, a⟩
  · rintro ⟨a, b⟩
    exact ⟨⟨b, fun e he => (a e he).2⟩, fun e he => (a e he).1⟩
theorem okK_kind (x : Ty) : okK x = true ↔ (x.kind = 1 ∧ x.args.length = 0) ∨ (x.kind = 2 ∧ x.args.length = 0) ∨ (x.kind = 3 ∧ x.args.length = 2) ∨ (x.kind = 4 ∧ x.args.length = 1) := by
  unfold okK
  by_cases h1 : x.kind = 1 ∨ x.kind = 2
  · rw [if_pos h1]; simp only [beq_iff_eq]; omega
  · rw [if_neg h1]
    by_cases h3 : x.kind = 3
    · rw [if_pos h3]; simp only [beq_iff_eq]; omega
    · rw [if_neg h3]; simp only [Bool.and_eq_true, beq_iff_eq]; omega

set_option maxRecDepth 100000 in
theorem proper_any {C : Nat → Prop} {x : Ty} {v : Value} {w : World} (h : TT w C x v) : Calls Tryz.prog 124 #[v] w (BoolRet (fun b => b = okK x) w) := by
  obtain ⟨s, rfl, hS⟩ := h
  obtain ⟨p, c, rfl⟩ := hS.form
  have HL := Lib.hid hS.len
  have HOK := Lib.hid (okK_kind x)
  clear hS
  go_enter Tryz.func124, Tryz.ntmps124
  go_wp2_with fail
  refine (kindOf_any x.kind p x.args.length c _ HL.out).mono ?_
  rintro e w1 ⟨rfl, hb⟩
  have HB := Lib.hid hb
  clear hb
  rcases kindV_cases x.kind x.args.length with ⟨hc, hk⟩ | ⟨hc, hk⟩ | ⟨hc, hk⟩ | ⟨hc, hk⟩ | ⟨hc, hk⟩
  · rw [hk]
    have HO1 := Lib.hid (HOK.out.2 (by omega))
    clear hc hk
    go_wp2_with fail
    go_ret
    exact ⟨_, HO1.out.symm, rfl, ((Below.refl w.heap.size w).alloc (Nat.le_refl _) _).trans (HB.out.mono (by simp))⟩
  · rw [hk]
    have HO1 := Lib.hid (HOK.out.2 (by omega))
    clear hc hk
    go_wp2_with fail
    go_ret
    exact ⟨_, HO1.out.symm, rfl, ((Below.refl w.heap.size w).alloc (Nat.le_refl _) _).trans (HB.out.mono (by simp))⟩
  · rw [hk]
    have HO1 := Lib.hid (HOK.out.2 (by omega))
    clear hc hk
    go_wp2_with fail
    go_ret
    exact ⟨_, HO1.out.symm, rfl, ((Below.refl w.heap.size w).alloc (Nat.le_refl _) _).trans (HB.out.mono (by simp))⟩
  · rw [hk]
    have HO1 := Lib.hid (HOK.out.2 (by omega))
    clear hc hk
    go_wp2_with fail
    go_ret
    exact ⟨_, HO1.out.symm, rfl, ((Below.refl w.heap.size w).alloc (Nat.le_refl _) _).trans (HB.out.mono (by simp))⟩
  · rw [hk]
    have HO1 := Lib.hid (show okK x = false by cases h : okK x with | false => rfl | true => have := HOK.out.1 h; omega)
    clear hc hk
    go_wp2_with fail
    go_ret
    exact ⟨_, HO1.out.symm, rfl, ((Below.refl w.heap.size w).alloc (Nat.le_refl _) _).trans (HB.out.mono (by simp))⟩

set_option maxRecDepth 100000 in
theorem validI_any {C : Nat → Prop} {t : Ty} {v : Value} {w : World} (h : TT w C t v) (hn : nodesS t.args ≤ 2097152) :
    Calls Tryz.prog 92 #[v] w (BoolRet (fun r => r = t.valid) w) := by
  have hn' : t.nodes ≤ 2097153 := by have := t.nodes_eq; omega
  obtain ⟨s, rfl, hS⟩ := h
  obtain ⟨p, c, rfl⟩ := hS.form
  have HT := Lib.hid (fun (A : Array Value) (T : TypeId) => tnT_any (hS.stays (.of_below ((Below.refl w.heap.size w).alloc (Nat.le_refl _) (.cells A T)))))
  clear hS
  go_enter Tryz.func92, Tryz.ntmps92
  go_wp2_with fail
  refine (HT.out _ _).mono ?_
  rintro e w1 ⟨Bt, Bp, rfl, hI, hb, -⟩
  have HI := Lib.hid hI
  have HB := Lib.hid hb
  clear hI hb
  go_wp2_with fail
  refine (withinT_any HI.out hn' 124 okK 30 8 (enters_of Tryz.func124 (by kernel_rfl) rfl) (fun x v d W _ hx _ => proper_any hx)).mono ?_
  rintro e w2 ⟨r, hr, rfl, hb2⟩
  have HR := Lib.hid (show r = t.valid by
    have h1 := valid_walk t
    rw [← hr] at h1
    cases r <;> cases hv : t.valid <;> simp_all)
  have HB2 := Lib.hid hb2
  clear hr hb2
  go_wp2_with fail
  go_ret
  exact ⟨_, HR.out, rfl, (((Below.refl w.heap.size w).alloc (Nat.le_refl _) _).trans (HB.out.mono (by simp))).trans (HB2.out.mono (by have := HB.out.size; simp at this; omega))⟩
def NoCode (pre : List (Ty × Nat)) : Prop := ∀ e ∈ pre, e.1.code = false
end Go.Proofs.YtjobmgbchpoheaaGreatDoor
namespace Go.Proofs.YtjobmgbchpoheaaGreatDoor
open Go Go.RowKit

def StrRet (x : List UInt8) (w : World) (e : Ending) (w' : World) : Prop := e = .returned (.string ⟨x.toArray⟩) ∧ Below w.heap.size w w'
theorem cat_fun (a b : List UInt8) : (⟨#[40]⟩ : ByteArray) ++ ⟨a.toArray⟩ ++ ⟨#[62]⟩ ++ ⟨b.toArray⟩ ++ ⟨#[41]⟩ = ⟨(40 :: (a ++ 62 :: (b ++ [41]))).toArray⟩ := by
  apply ByteArray.ext
  simp
theorem cat_code (a : List UInt8) : (⟨#[60]⟩ : ByteArray) ++ ⟨a.toArray⟩ ++ ⟨#[62]⟩ = ⟨(60 :: (a ++ [62])).toArray⟩ := by
  apply ByteArray.ext
  simp
theorem keepS6 {w W w1 : World} {p1 p2 p3 p4 p5 : Addr} {v1 v2 v3 v4 v5 : Value} (hb1 : Below W.heap.size W w1) (h : W.cell? p1 = some v1 ∧ W.cell? p2 = some v2 ∧ W.cell? p3 = some v3 ∧ W.cell? p4 = some v4 ∧ W.cell? p5 = some v5 ∧ Below w.heap.size w W) :
    w1.cell? p1 = some v1 ∧ w1.cell? p2 = some v2 ∧ w1.cell? p3 = some v3 ∧ w1.cell? p4 = some v4 ∧ w1.cell? p5 = some v5 ∧ Below w.heap.size w w1 := by
  have k : ∀ {p : Addr} {v : Value}, W.cell? p = some v → w1.cell? p = some v := fun {p v} hp => (hb1.cell (World.block_lt_of_cell? W _ hp)).trans hp
  obtain ⟨h1, h2, h3, h4, h5, h6⟩ := h
  exact ⟨k h1, k h2, k h3, k h4, k h5, h6.trans (hb1.mono h6.size)⟩

set_option maxRecDepth 100000 in
set_option maxHeartbeats 1000000 in
theorem spText_any {w0 : World} {C : Nat → Prop} {ts : List Ty} {v : Value} (h : TS w0 C ts v) : ∀ (w : World) (q : Int), Stays C w0 w → nodesS ts ≤ 2097152 → (Ty.mk q ts).form = true →
    Calls Tryz.prog 103 #[.agg #[.int .i64 q, v]] w (StrRet (Ty.mk q ts).text w) := by
  refine TS.ind (motive := fun ts v => ∀ (w : World) (q : Int), Stays C w0 w → nodesS ts ≤ 2097152 → (Ty.mk q ts).form = true → Calls Tryz.prog 103 #[.agg #[.int .i64 q, v]] w (StrRet (Ty.mk q ts).text w)) ?_ h
  intro ts p c hl H w q hst hn hf
  have HH := Lib.hid H
  have HST := Lib.hid hst
  clear H hst
  have HB0 := Lib.hid ((alloc_below w (.cells #[.int .i64 q, .slice p ts.length c] 26)).drew)
  have HBA := Lib.hid (alloc_below w (.cells #[.int .i64 q, .slice p ts.length c] 26))
  rcases form_cases hf with hc | hc | ⟨a, b, hc, ha, hb⟩ | ⟨a, hc, ha⟩
  · cases hc
    rw [text_int]
    go_enter Tryz.func103, Tryz.ntmps103
    go_wp2_with fail
    go_ret
    exact ⟨rfl, HBA.out⟩
  · cases hc
    rw [text_bool]
    go_enter Tryz.func103, Tryz.ntmps103
    go_wp2_with fail
    go_ret
    exact ⟨rfl, HBA.out⟩
  · cases hc
    rw [text_fun]
    clear hf
    obtain ⟨b0, o, p1, c1, rfl, hcs1, hT1, hI1⟩ := HH.out 0 a rfl
    obtain ⟨b1, o1, p2, c2, hp2, hcs2, hT2, hI2⟩ := HH.out 1 b rfl
    simp only [Option.some.injEq, Addr.mk.injEq, and_true] at hp2
    obtain ⟨rfl, rfl⟩ := hp2
    have na : a.nodes ≤ 2097152 := by simp only [nodesS] at hn; omega
    have nb : b.nodes ≤ 2097152 := by simp only [nodesS] at hn; omega
    have la := text_le _ a (Nat.le_refl _) ha
    have lb := text_le _ b (Nat.le_refl _) hb
    have nA : nodesS a.args ≤ 2097152 := by rw [a.nodes_eq] at na; omega
    have nB : nodesS b.args ≤ 2097152 := by rw [b.nodes_eq] at nb; omega
    have HA := Lib.hid (fun (W : World) (hW : Below w.heap.size w W) => (hI1 W a.kind (HST.out.trans (.of_below hW)) nA (by rw [← a.eta]; exact ha)).mono (R' := fun e w' => e = .returned (.string ⟨a.text.toArray⟩) ∧ Below w.heap.size w w' ∧ Below W.heap.size W w')
      (by rintro e w' ⟨rfl, hb⟩; exact ⟨by rw [← a.eta], hW.trans (hb.mono hW.size), hb⟩))
    have HB := Lib.hid (fun (W : World) (hW : Below w.heap.size w W) => (hI2 W b.kind (HST.out.trans (.of_below hW)) nB (by rw [← b.eta]; exact hb)).mono (R' := fun e w' => e = .returned (.string ⟨b.text.toArray⟩) ∧ Below w.heap.size w w' ∧ Below W.heap.size W w')
      (by rintro e w' ⟨rfl, hb⟩; exact ⟨by rw [← b.eta], hW.trans (hb.mono hW.size), hb⟩))
    have g1 := hcs1 _ (HST.out.trans (.of_below HB0.out))
    have g2 := hcs2 _ (HST.out.trans (.of_below HB0.out))
    simp only [Nat.zero_mul, Nat.one_mul, Nat.add_zero, List.length_cons, List.length_nil, Nat.zero_add, Nat.reduceAdd] at g1 g2 HB0 HBA ⊢
    obtain ⟨g10, g11⟩ := g1
    obtain ⟨g20, g21⟩ := g2
    have LA := Lib.hid la
    have LB := Lib.hid lb
    have lat : a.text.length ≤ 6291456 := by omega
    have lbt : b.text.length ≤ 6291456 := by omega
    have x1 : ¬ 9223372036854775807 < 1 + a.text.length := by omega
    have x2 : ¬ 9223372036854775807 < 1 + a.text.length + 1 := by omega
    have x3 : ¬ 9223372036854775807 < 1 + a.text.length + 1 + b.text.length := by omega
    have x4 : ¬ 9223372036854775807 < 1 + a.text.length + 1 + b.text.length + 1 := by omega
    clear hcs1 hcs2 hT1 hT2 hI1 hI2 la lb na nb nA nB lat lbt
    go_enter Tryz.func103, Tryz.ntmps103
    go_wp2_with fail
    go_region_held3 (fun w' => w'.cell? ⟨w.heap.size, 1, none⟩ = some (.slice (some ⟨b0, o, none⟩) 2 c) ∧ w'.cell? ⟨b0, o, none⟩ = some (.int .i64 a.kind) ∧ w'.cell? ⟨b0, o + 1, none⟩ = some (.slice p1 a.args.length c1) ∧ w'.cell? ⟨b0, o + 2, none⟩ = some (.int .i64 b.kind) ∧ w'.cell? ⟨b0, o + 2 + 1, none⟩ = some (.slice p2 b.args.length c2) ∧ Below w.heap.size w w')
      (first
        | (go_keep; done)
        | exact ⟨by simp [*], by simp [*], by simp [*], by simp [*], by simp [*], HB0.out⟩
        | exact keepS6 hb1 (by assumption)
        | exact keepS6 hb2 (by assumption))
      (first
        | (go_at_call_of 103 (Value.agg #[.int .i64 a.kind, .slice p1 a.args.length c1]); (first | refine (HA.out _ HB0.out).mono ?_ | refine (HA.out _ hx2).mono ?_); rintro e w1 ⟨rfl, hx1, hb1⟩)
        | (go_at_call_of 103 (Value.agg #[.int .i64 b.kind, .slice p2 b.args.length c2]); (first | refine (HB.out _ HB0.out).mono ?_ | refine (HB.out _ hx1).mono ?_); rintro e w2 ⟨rfl, hx2, hb2⟩))
    go_wp2_with fail
    rename_i hH
    go_ret
    exact ⟨by rw [cat_fun]; rfl, hH.2.2.2.2.2⟩
  · cases hc
    rw [text_code]
    clear hf
    obtain ⟨b0, o, p1, c1, rfl, hcs1, hT1, hI1⟩ := HH.out 0 a rfl
    have na : a.nodes ≤ 2097152 := by simp only [nodesS] at hn; omega
    have la := text_le _ a (Nat.le_refl _) ha
    have nA : nodesS a.args ≤ 2097152 := by rw [a.nodes_eq] at na; omega
    have HA := Lib.hid (fun (W : World) (hW : Below w.heap.size w W) => (hI1 W a.kind (HST.out.trans (.of_below hW)) nA (by rw [← a.eta]; exact ha)).mono (R' := fun e w' => e = .returned (.string ⟨a.text.toArray⟩) ∧ Below w.heap.size w w')
      (by rintro e w' ⟨rfl, hb⟩; exact ⟨by rw [← a.eta], hW.trans (hb.mono hW.size)⟩))
    have g1 := hcs1 _ (HST.out.trans (.of_below HBA.out))
    simp only [Nat.zero_mul, Nat.add_zero, List.length_cons, List.length_nil, Nat.zero_add] at g1 HBA ⊢
    obtain ⟨g10, g11⟩ := g1
    have LA := Lib.hid la
    have lat : a.text.length ≤ 6291456 := by omega
    clear hcs1 hT1 hI1 la na nA
    go_enter Tryz.func103, Tryz.ntmps103
    go_wp2_with fail
    refine (HA.out _ HBA.out).mono ?_
    rintro e w1 ⟨rfl, hx1⟩
    have HX := Lib.hid hx1
    clear hx1
    go_wp2_with fail
    go_ret
    exact ⟨by rw [cat_code]; rfl, HX.out⟩

end Go.Proofs.YtjobmgbchpoheaaGreatDoor
namespace Go.Proofs.YtjobmgbchpoheaaGreatDoor
open Go Go.RowKit
def ParseRet (s : ByteArray) (w : World) (e : Ending) (w' : World) : Prop :=
  ∃ v, e = .returned (.tuple #[v, .bool (parseT s.data.toList).isSome]) ∧ TT w' (fun z => w.heap.size ≤ z) ((parseT s.data.toList).getD (.mk 0 [])) v ∧ Below w.heap.size w w'
end Go.Proofs.YtjobmgbchpoheaaGreatDoor
namespace Go.Proofs.YtjobmgbchpoheaaGreatDoor
open Go Go.RowKit
def LeadRet (s : ByteArray) (w : World) (e : Ending) (w' : World) : Prop :=
  Below w.heap.size w w' ∧ ∃ (t : Ty) (p : Option Addr) (c : Nat) (n : Nat),
    ((pty s.data.toList 8 0 = some (t, n) ∧ e = .returned (.tuple #[.agg #[.int .i64 t.kind, .slice p t.args.length c], .int .i64 n, .bool true]) ∧ OS w' t.args (.slice p t.args.length c) (fun z => w.heap.size ≤ z ∧ z < w'.heap.size)) ∨
     (pty s.data.toList 8 0 = none ∧ e = .returned (.tuple #[.agg #[.int .i64 t.kind, .slice p t.args.length c], .int .i64 n, .bool false]) ∧ (t.args = [] ∧ p = none ∧ c = 0) ∧ n ≤ s.size))

theorem lead_world (w : World) (s : ByteArray) : ∃ wl,
    (((((w.alloc (.cells #[.string s] 9)).alloc (.cells #[.int .i64 0, .slice none 0 0] 26)).alloc (.cells #[.int .i64 0] 3)).alloc (.cells #[.func (.func 143) #[] #[.pointer (some ⟨w.heap.size + 1 + 1, 0, none⟩), .pointer (some ⟨w.heap.size, 0, none⟩)]] 164)).alloc
      (.cells #[.func (.func 145) #[] #[.pointer (some ⟨w.heap.size + 1 + 1 + 1, 0, none⟩), .pointer (some ⟨w.heap.size + 1 + 1 + 1 + 1 + 1, 0, none⟩)]] 165)).alloc
      (.cells #[.func (.func 144) #[] #[.pointer (some ⟨w.heap.size + 1 + 1 + 1 + 1, 0, none⟩), .pointer (some ⟨w.heap.size + 1 + 1 + 1, 0, none⟩)]] 167) = wl ∧
    Cl w.heap.size s 0 wl ∧ wl.heap[w.heap.size + 1]? = some (.cells #[.int .i64 0, .slice none 0 0] 26 (0, 0)) ∧ wl.heap.size = w.heap.size + 6 ∧ Below w.heap.size w wl := by
  refine ⟨_, rfl, ⟨?_, ?_, ?_, ?_, ?_⟩, ?_, ?_, ?_⟩
  · exact al_blk (al_blk (al_blk (al_blk (al_blk (blk_new _ _) _) _) _) _) _
  · have := al_blk (al_blk (al_blk (blk_new ((w.alloc (.cells #[.string s] 9)).alloc (.cells #[.int .i64 0, .slice none 0 0] 26)) (.cells #[.int .i64 0] 3)) (.cells #[.func (.func 143) #[] #[.pointer (some ⟨w.heap.size + 1 + 1, 0, none⟩), .pointer (some ⟨w.heap.size, 0, none⟩)]] 164))
      (.cells #[.func (.func 145) #[] #[.pointer (some ⟨w.heap.size + 1 + 1 + 1, 0, none⟩), .pointer (some ⟨w.heap.size + 1 + 1 + 1 + 1 + 1, 0, none⟩)]] 165))
      (.cells #[.func (.func 144) #[] #[.pointer (some ⟨w.heap.size + 1 + 1 + 1 + 1, 0, none⟩), .pointer (some ⟨w.heap.size + 1 + 1 + 1, 0, none⟩)]] 167)
    rw [World.size_alloc, World.size_alloc] at this
    exact this
  · refine al_blk (al_blk ?_ _) _
    have := blk_new (((w.alloc (.cells #[.string s] 9)).alloc (.cells #[.int .i64 0, .slice none 0 0] 26)).alloc (.cells #[.int .i64 0] 3)) (.cells #[fAcc w.heap.size] 164)
    rw [World.size_alloc, World.size_alloc, World.size_alloc] at this
    exact this
  · refine al_blk ?_ _
    have := blk_new ((((w.alloc (.cells #[.string s] 9)).alloc (.cells #[.int .i64 0, .slice none 0 0] 26)).alloc (.cells #[.int .i64 0] 3)).alloc (.cells #[fAcc w.heap.size] 164)) (.cells #[fTyp w.heap.size] 165)
    rw [World.size_alloc, World.size_alloc, World.size_alloc, World.size_alloc] at this
    exact this
  · have := blk_new (((((w.alloc (.cells #[.string s] 9)).alloc (.cells #[.int .i64 0, .slice none 0 0] 26)).alloc (.cells #[.int .i64 0] 3)).alloc (.cells #[fAcc w.heap.size] 164)).alloc (.cells #[fTyp w.heap.size] 165)) (.cells #[fPar w.heap.size] 167)
    rw [World.size_alloc, World.size_alloc, World.size_alloc, World.size_alloc, World.size_alloc] at this
    exact this
  · refine al_blk (al_blk (al_blk (al_blk ?_ _) _) _) _
    have := blk_new (w.alloc (.cells #[.string s] 9)) (.cells #[.int .i64 0, .slice none 0 0] 26)
    rw [World.size_alloc] at this
    exact this
  · simp only [World.size_alloc]
  · exact (((((alloc_below _ _).trans ((alloc_below _ _).mono (by simp))).trans ((alloc_below _ _).mono (by simp; omega))).trans ((alloc_below _ _).mono (by simp; omega))).trans ((alloc_below _ _).mono (by simp; omega))).trans ((alloc_below _ _).mono (by simp; omega))
abbrev wr4 (W : World) (b : Nat) (q : Int) (v : Value) : World := ((((W.setCell ⟨b, 0, none⟩ (.int .i64 q)).setCell ⟨b, 1, none⟩ v).setCell ⟨b, 0, none⟩ (.int .i64 q)).setCell ⟨b, 1, none⟩ v).drew
theorem wr4_stays (W : World) (b : Nat) (q : Int) (v : Value) (F : Nat → Prop) (h : ¬ F b) : Stays F W (wr4 W b q v) :=
  ((((setCell_stays _ _ _ _ F h).trans (setCell_stays _ _ _ _ F h)).trans (setCell_stays _ _ _ _ F h)).trans (setCell_stays _ _ _ _ F h))
theorem wr4_below (W : World) (b D : Nat) (q : Int) (v : Value) (h : D ≤ b) : Below D W (wr4 W b q v) :=
  (((((Below.refl D W).setCell (p := ⟨b, 0, none⟩) h _).setCell (p := ⟨b, 1, none⟩) h _).setCell (p := ⟨b, 0, none⟩) h _).setCell (p := ⟨b, 1, none⟩) h _).drew
theorem wr4_size (W : World) (b : Nat) (q : Int) (v : Value) : (wr4 W b q v).heap.size = W.heap.size := by simp [World.setCell]
theorem wr4_cells {W : World} {b : Nat} {T : TypeId} {u0 u1 : Value} (h : W.heap[b]? = some (.cells #[u0, u1] T (0, 0))) (q : Int) (v : Value) :
    ((((W.setCell ⟨b, 0, none⟩ (.int .i64 q)).setCell ⟨b, 1, none⟩ v).setCell ⟨b, 0, none⟩ (.int .i64 q)).setCell ⟨b, 1, none⟩ v).cell? ⟨b, 1, none⟩ = some v := by
  have h1 := heap_setCell_same W b 0 _ _ (.int .i64 q) h
  have h2 := heap_setCell_same _ b 1 _ _ v h1
  have h3 := heap_setCell_same _ b 0 _ _ (.int .i64 q) h2
  have h4 := heap_setCell_same _ b 1 _ _ v h3
  rw [cell_of_blk h4 1]
  rfl
theorem lead_yes {s : ByteArray} {w w1 : World} {n j : Nat} {t : Ty} {p : Option Addr} {c : Nat} (hb : Below w.heap.size w w1) (hn : n = w.heap.size + 6) (hp : pty s.data.toList 8 0 = some (t, j)) (ho : OS w1 t.args (.slice p t.args.length c) (fun z => n ≤ z ∧ z < w1.heap.size)) :
    LeadRet s w (.returned (.tuple #[.agg #[.int .i64 t.kind, .slice p t.args.length c], .int .i64 j, .bool true])) (wr4 w1 (w.heap.size + 1) t.kind (.slice p t.args.length c)) :=
  ⟨hb.trans (wr4_below _ _ _ _ _ (by omega)), t, p, c, j, Or.inl ⟨hp, rfl, (ho.stays (wr4_stays _ _ _ _ _ (by omega))).mono (fun z hz => by rw [wr4_size]; omega)⟩⟩
theorem lead_no {s : ByteArray} {w w1 : World} {j : Nat} {t : Ty} {p : Option Addr} {c : Nat} (hb : Below w.heap.size w w1) (hp : pty s.data.toList 8 0 = none) (hz : t.args = [] ∧ p = none ∧ c = 0) (hj : j ≤ s.size) :
    LeadRet s w (.returned (.tuple #[.agg #[.int .i64 t.kind, .slice p t.args.length c], .int .i64 j, .bool false])) (wr4 w1 (w.heap.size + 1) t.kind (.slice p t.args.length c)) :=
  ⟨hb.trans (wr4_below _ _ _ _ _ (by omega)), t, p, c, j, Or.inr ⟨hp, rfl, hz, hj⟩⟩

set_option maxRecDepth 100000 in
set_option maxHeartbeats 1000000 in
theorem lead_any (s : ByteArray) (hs : s.size ≤ 1073741824) (w : World) : Calls Tryz.prog 128 #[.string s] w (LeadRet s w) := by
  obtain ⟨wl, hwl, hcl, hr, hsz, hbl⟩ := lead_world w s
  have hC := at_any w.heap.size s hs 8 (Nat.le_refl _) 0 wl (Nat.zero_le _) hcl
  rw [← hwl] at hC
  have HC := Lib.hid hC
  have HWL := Lib.hid hwl
  have HR := Lib.hid hr
  have HSZ := Lib.hid hsz
  have HBL := Lib.hid hbl
  clear hwl hcl hr hsz hbl hC
  go_enter Tryz.func128, Tryz.ntmps128
  go_wp2_with fail
  refine HC.out.mono ?_
  rintro e w1 ⟨hg1, t, p, c, ho⟩
  rw [HWL.out] at hg1 ho
  have hsz := HSZ.out
  have hs1 := hg1.size
  have hr1 := (hg1.block (w.heap.size + 1) (by omega) (fun e => by have := Option.some.inj e; omega)).trans HR.out
  have g0 : w1.cell? ⟨w.heap.size + 1, 0, none⟩ = some (.int .i64 0) := cell_of_blk hr1 0
  have g1 : w1.cell? ⟨w.heap.size + 1, 1, none⟩ = some (.slice none 0 0) := cell_of_blk hr1 1
  have gz := unfrozen_of_blk hr1
  have hB1 : Below w.heap.size w w1 := HBL.out.grown hg1 (by omega) (fun k hk => by cases hk; omega)
  have HB1 := Lib.hid hB1
  have LT := Lib.hid hsz
  rcases ho with ⟨j, hp, rfl, hos, hcl⟩ | ⟨hp, rfl, hz, j, hj, hcl⟩
  · have a0 : w1.cell? ⟨w.heap.size + 1 + 1, 0, none⟩ = some (.int .i64 j) := cell_of_blk hcl.ba 0
    have HOS := Lib.hid hos
    have HP := Lib.hid hp
    have q1 := wr4_cells hr1 t.kind (.slice p t.args.length c)
    clear hp hos hcl hg1 hB1 hr1 hsz hs1
    go_wp2_with fail
    go_region
    go_wp2_with fail
    refine bodyPost_ret (v := .tuple #[.agg #[.int .i64 t.kind, .slice p t.args.length c], .int .i64 j, .bool true]) ?_ rfl ?_
    · rw [results_css rfl]
      go_simp
    · exact lead_yes HB1.out LT.out HP.out HOS.out
  · have a0 : w1.cell? ⟨w.heap.size + 1 + 1, 0, none⟩ = some (.int .i64 j) := cell_of_blk hcl.ba 0
    have HP := Lib.hid hp
    have HZ := Lib.hid hz
    have q1 := wr4_cells hr1 t.kind (.slice p t.args.length c)
    clear hp hz hcl hg1 hB1 hr1 hsz hs1
    go_wp2_with fail
    go_region
    go_wp2_with fail
    refine bodyPost_ret (v := .tuple #[.agg #[.int .i64 t.kind, .slice p t.args.length c], .int .i64 j, .bool false]) ?_ rfl ?_
    · rw [results_css rfl]
      go_simp
    · exact lead_no HB1.out HP.out HZ.out hj
end Go.Proofs.YtjobmgbchpoheaaGreatDoor
namespace Go.Proofs.YtjobmgbchpoheaaGreatDoor
open Go Go.RowKit
def ParseOwn (s : ByteArray) (w : World) (e : Ending) (w' : World) : Prop :=
  ∃ v, e = .returned (.tuple #[v, .bool (parseT s.data.toList).isSome]) ∧ OT w' ((parseT s.data.toList).getD (.mk 0 [])) v (fun z => w.heap.size ≤ z ∧ z < w'.heap.size) ∧ Below w.heap.size w w'
end Go.Proofs.YtjobmgbchpoheaaGreatDoor
