/-
  The contract of the program's IsValidType.
-/
import Derived.Test.YtgeliljanljmmaaDepthI
import Derived.Lib.SmallJoins
namespace Go.Proofs.Ytgeliljanljmmaa
open Go Go.RowKit Go.Shelf
attribute [local go_sem] Oper.semAt_some

/-- The node is of one of the four kinds, with its number of parts. -/
def okK (x : Ty) : Bool := if x.kind = 1 ∨ x.kind = 2 then x.args.length == 0 else if x.kind = 3 then x.args.length == 2 else x.kind == 4 && x.args.length == 1
theorem form_at (t : Ty) : t.form = (formS t.args && okK t) := by cases t; rw [Ty.form]; rfl
mutual
theorem form_walk : ∀ (t : Ty) (d : Nat), t.form = true ↔ ∀ e ∈ walkT t d, okK e.1 = true
  | .mk k ts, d => by
    have h := form_walkS ts (d + 1)
    rw [form_at, Bool.and_eq_true]
    simp only [Ty.args_mk, walkT, List.forall_mem_cons, h]
    exact And.comm
theorem form_walkS : ∀ (ts : List Ty) (d : Nat), formS ts = true ↔ ∀ e ∈ walkS ts d, okK e.1 = true
  | [], d => by simp [formS, walkS]
  | t :: ts, d => by
    have h1 := form_walkS ts d
    have h2 := form_walk t d
    simp only [formS, walkS, Bool.and_eq_true, List.forall_mem_append, h1, h2]
    exact And.comm
end
theorem maxd_le {l : List (Ty × Nat)} {n : Nat} : maxd l ≤ n ↔ ∀ e ∈ l, e.2 ≤ n := by
  induction l with
  | nil => simp [maxd]
  | cons e l ih =>
    rw [List.forall_mem_cons, ← ih]
    simp only [maxd]
    omega
theorem valid_walk (t : Ty) : t.valid = true ↔ (∀ e ∈ walkT t 1, okK e.1 = true ∧ e.2 ≤ 8) ∧ t.nodes ≤ 30 := by
  have h1 := form_walk t 1
  have h2 : t.depth ≤ 8 ↔ ∀ e ∈ walkT t 1, e.2 ≤ 8 := by
    rw [← maxd_le]
    have := maxd_walk t 1
    omega
  simp only [Ty.valid, Bool.and_eq_true, decide_eq_true_eq]
  rw [h1, h2]
  constructor
  · rintro ⟨⟨a, b⟩, c⟩
    exact ⟨fun e he => ⟨c e he, b e he⟩, a⟩
  · rintro ⟨a, b⟩
    exact ⟨⟨b, fun e he => (a e he).2⟩, fun e he => (a e he).1⟩
theorem okK_kind (x : Ty) : okK x = true ↔ (x.kind = 1 ∧ x.args.length = 0) ∨ (x.kind = 2 ∧ x.args.length = 0) ∨ (x.kind = 3 ∧ x.args.length = 2) ∨ (x.kind = 4 ∧ x.args.length = 1) := by
  unfold okK
  by_cases h1 : x.kind = 1 ∨ x.kind = 2
  · rw [if_pos h1]; simp only [beq_iff_eq]; omega
  · rw [if_neg h1]
    by_cases h3 : x.kind = 3
    · rw [if_pos h3]; simp only [beq_iff_eq]; omega
    · rw [if_neg h3]; simp only [Bool.and_eq_true, beq_iff_eq]; omega

/-- What the loop has found: all so far are right. -/
def SoFar (pre : List (Ty × Nat)) : Prop := (∀ e ∈ pre, okK e.1 = true ∧ e.2 ≤ 8) ∧ pre.length ≤ 30
theorem soFar_nil : SoFar [] := ⟨by simp, by simp⟩
theorem SoFar.next {pre : List (Ty × Nat)} {x : Ty} {d : Nat} (h : SoFar pre) (h1 : okK x = true) (h2 : d ≤ 8) (h3 : pre.length + 1 ≤ 30) : SoFar (pre ++ [(x, d)]) := by
  refine ⟨fun e he => ?_, by rw [List.length_append, List.length_singleton]; exact h3⟩
  rcases List.mem_append.1 he with he | he
  · exact h.1 e he
  · simp only [List.mem_singleton] at he; subst he; exact ⟨h1, h2⟩
theorem SoFar.valid {t : Ty} (h : SoFar (walkT t 1)) : t.valid = true := (valid_walk t).2 ⟨h.1, by have := h.2; rw [walkT_length] at this; exact this⟩
theorem invalid_at {t x : Ty} {d : Nat} {pre : List (Ty × Nat)} (h : pre ++ [(x, d)] <+: walkT t 1) (hb : ¬ (okK x = true ∧ d ≤ 8 ∧ pre.length + 1 ≤ 30)) : t.valid = false := by
  rw [Bool.eq_false_iff]
  intro hv
  obtain ⟨h1, h2⟩ := (valid_walk t).1 hv
  obtain ⟨h3, h4⟩ := h1 (x, d) (h.subset (by simp))
  have h5 := h.length_le
  rw [walkT_length, List.length_append, List.length_singleton] at h5
  exact hb ⟨h3, h4, by omega⟩

theorem loop_world4 (w : World) (A B D A' : Array Value) (tA tB tD tA' : TypeId) : ∃ wl : World, (((w.alloc (.cells A tA)).alloc (.cells B tB)).alloc (.cells D tD)).alloc (.cells A' tA') = wl ∧ wl.heap.size = w.heap.size + 4 ∧ Below w.heap.size w wl ∧
    wl.heap[w.heap.size]? = some (.cells A tA (0, 0)) ∧ wl.heap[w.heap.size + 1]? = some (.cells B tB (0, 0)) ∧ wl.heap[w.heap.size + 1 + 1]? = some (.cells D tD (0, 0)) ∧ wl.heap[w.heap.size + 1 + 1 + 1]? = some (.cells A' tA' (0, 0)) := by
  obtain ⟨w3, h3, hs, hb, k0, k1, k2⟩ := loop_world w A B D tA tB tD
  subst h3
  have hs' : w.heap.size + 1 + 1 + 1 = (((w.alloc (.cells A tA)).alloc (.cells B tB)).alloc (.cells D tD)).heap.size := by omega
  refine ⟨_, rfl, by simp, hb.alloc (by omega) _, ?_, ?_, ?_, ?_⟩
  · rw [Below.heap_alloc _ _ _ (by omega)]; exact k0
  · rw [Below.heap_alloc _ _ _ (by omega)]; exact k1
  · rw [Below.heap_alloc _ _ _ (by omega)]; exact k2
  · rw [hs']; exact blk_new _ _

set_option maxRecDepth 100000 in
set_option maxHeartbeats 2000000 in
theorem validI_any {C : Nat → Prop} {t : Ty} {v : Value} {w : World} (h : TT w C t v) (hn : nodesS t.args ≤ 1048576) :
    Calls Try.prog 22 #[v] w (BoolRet (fun r => r = t.valid) w) := by
  obtain ⟨s, rfl, hS⟩ := h
  obtain ⟨p, c, rfl⟩ := hS.form
  have HS := Lib.hid (hS.mono (C' := (· < w.heap.size)) (fun b _ h => h))
  clear hS
  refine (callsIn_wide (n := 2)).1 ?_
  refine callsIn_of_wp_marks Try.func22 rfl trivial ?_ rfl
  simp only [Try.ntmps22, List.size_toArray, List.length_cons, List.length_nil, Nat.reduceAdd, Nat.reduceSub, Array.replicate_succ, Array.replicate_zero, List.push_toArray, List.append_toArray, List.nil_append, List.cons_append]
  gi_wp2_with (refine ⟨trivial, ?_⟩; gi_at_call 41; refine (callsIn_wide.2 (tn_any _ _ _ _ _)).mono ?_; rintro e w' ⟨rfl, rfl⟩)
  obtain ⟨wl, hwl, hsz, hbl, k0, k1, k2, k3⟩ := loop_world4 w #[.int .i64 t.kind, .slice p t.args.length c] #[.bool false] #[.int .i64 0] #[.int .i64 t.kind, .slice p t.args.length c] 26 4 3 26
  rw [hwl]
  have HSL : TS wl (· < w.heap.size) t.args (.slice p t.args.length c) := HS.out.keep hbl
  refine range_law (F := Fence.wide) (n := 2) rfl (by omega) (gf := 55) (lb := #[.pointer (some ⟨w.heap.size + 1 + 1 + 1, 0, none⟩)]) rfl trivial (enters_of Try.func55 (by kernel_rfl) rfl)
    (nodes_seq (w.heap.size + 1 + 1 + 1) t _ (fun b => b = w.heap.size + 1 ∨ b = w.heap.size + 2) (· < w.heap.size) (cell_of_blk k3 0) (cell_of_blk k3 1) HSL hn (fun b h => by omega) (fun b h => ⟨by omega, by omega⟩)) (fun _ => rfl) (fun b h => by omega)
    (fun pre W => W.heap[w.heap.size + 1]? = some (.cells #[.bool false] 4 (0, 0)) ∧ W.heap[w.heap.size + 1 + 1]? = some (.cells #[.int .i64 (pre.length : Nat)] 3 (0, 0)) ∧ SoFar pre ∧ Below w.heap.size w W)
    (fun j pre W => j = .ret ∧ W.cell? ⟨w.heap.size + 1, 0, none⟩ = some (.bool false) ∧ t.valid = false ∧ Below w.heap.size w W)
    (fun pre A B h hb => ⟨(hb.block _ (by omega)).trans h.1, (hb.block _ (by omega)).trans h.2.1, h.2.2.1, h.2.2.2.trans (hb.mono (by omega))⟩)
    (fun j pre A B h hb => ⟨h.1, (hb.cell (by show w.heap.size + 1 < _; omega)).trans h.2.1, h.2.2.1, h.2.2.2.trans (hb.mono (by omega))⟩)
    (good_keep (fun b h => by omega)) ⟨k1, k2, soFar_nil, hbl⟩
    (fun x a' W => ∃ bx sx, x.2.1 = sx ∧ W.heap[bx]? = some (.cells #[.int .i64 x.1.kind, sx] 26 (0, 0)) ∧ a' = { tmps := #[.agg #[.int .i64 t.kind, .slice p t.args.length c], .pointer (some ⟨w.heap.size, 0, none⟩), .pointer (some ⟨w.heap.size + 1, 0, none⟩), .pointer (some ⟨w.heap.size + 1 + 1, 0, none⟩), .pointer (some ⟨bx, 0, none⟩), .int .i64 (x.2.2 : Nat),
      .agg #[.int .i64 t.kind, .slice p t.args.length c], .func (.func 55) #[] #[.pointer (some ⟨w.heap.size + 1 + 1 + 1, 0, none⟩)], .agg #[.int .i64 x.1.kind, x.2.1], .int .i64 (x.2.2 : Nat), undef, undef, undef, undef, undef, undef, undef, undef, undef, undef, undef, undef, undef], defers := [] })
    (fun x a' W l r o h hl => by
      obtain ⟨bx, sx, h1, h2, h3⟩ := h
      exact ⟨bx, sx, h1, (World.putObj_heap_other (fun e => by rw [e, hl] at h2; cases h2)).trans h2, h3⟩) ?assign ?body ?done ?stop
  case assign =>
    rintro l ⟨x, sx, d⟩ W K hG hK
    obtain ⟨p', c', hf⟩ := hG.form
    simp only at hf
    subst hf
    have HK := Lib.hid hK
    clear hK
    gi_wp2
    exact HK.out _ _ ((Below.refl _ _).alloc (Nat.le_refl _) _) ⟨W.heap.size, _, rfl, blk_new _ _, by simp⟩
  case body =>
    rintro l pre ⟨x, sx, d⟩ a' W ⟨hr, hs, hso, hB⟩ hpre hG ⟨bx, sx', rfl, hbx, rfl⟩
    obtain ⟨p', c', hf⟩ := hG.form
    have hlx := hG.len
    simp only at hf hbx hpre hlx ⊢
    subst hf
    have hne : bx ≠ w.heap.size + 1 + 1 := fun e => by rw [e, hs] at hbx; simp at hbx
    have hd : d ≤ 1048577 := by
      have h1 := maxd_prefix hpre
      have h2 := maxd_walk t 1
      have h3 := t.depth_nodes
      have h4 := t.nodes_eq
      rw [maxd_snoc] at h1
      simp only at h1
      omega
    have s0 := cell_of_blk hs 0
    have sz := unfrozen_of_blk hs 0
    have x0 := cell_of_blk hbx 0
    have x1 := cell_of_blk hbx 1
    simp only [List.getElem?_toArray, List.getElem?_cons_zero, List.getElem?_cons_succ] at s0 x0 x1
    have hlen := hso.2
    have hne1 : bx ≠ w.heap.size + 1 := fun e => by rw [e, hr] at hbx; simp at hbx
    let W1 := W.setCell ⟨w.heap.size + 1 + 1, 0, none⟩ (.int .i64 ((pre.length : Nat) + 1))
    have hs1 : W1.heap[w.heap.size + 1 + 1]? = some (.cells #[.int .i64 ((pre.length : Nat) + 1)] 3 (0, 0)) := by
      rw [show W1 = W.setCell ⟨w.heap.size + 1 + 1, 0, none⟩ (.int .i64 ((pre.length : Nat) + 1)) from rfl, Go.Joins.block_setCell hs]; rfl
    have hr1 : W1.heap[w.heap.size + 1]? = some (.cells #[.bool false] 4 (0, 0)) := (Below.heap_setCell _ _ _ _ (by show w.heap.size + 1 ≠ w.heap.size + 1 + 1; omega)).trans hr
    have hH1 : Holds (fun b => b = w.heap.size + 1 ∨ b = w.heap.size + 2) W W1 := Holds.setCell (Holds.refl _ W) ⟨w.heap.size + 1 + 1, 0, none⟩ (Or.inr rfl) _
    have hB1 : Below w.heap.size w W1 := hB.setCell (p := ⟨w.heap.size + 1 + 1, 0, none⟩) (by show w.heap.size ≤ w.heap.size + 1 + 1; omega) _
    have HS1 := Lib.hid hs1
    have HR1 := Lib.hid hr1
    have HH1 := Lib.hid hH1
    have HB1 := Lib.hid hB1
    have HSO := Lib.hid hso
    have HP := Lib.hid hpre
    clear hs1 hr1 hH1 hB1 hso hpre hs hr hbx hB k0 k1 k2 k3 hG HSL hbl hwl
    gi_wp2_with fail
    refine ⟨trivial, rfl, ?_⟩
    refine (CallsIn.inRound l (callsIn_wide.2 (kindOf_any x.kind p' x.args.length c' W1 hlx))).mono ?_
    rintro e W2 ⟨rfl, hb2⟩
    have l1 := (Array.getElem?_eq_some_iff.1 HS1.out).1
    have l2 := (Array.getElem?_eq_some_iff.1 HR1.out).1
    have s2 := cell_of_blk ((hb2.block _ l1).trans HS1.out) 0
    have r2 := cell_of_blk ((hb2.block _ l2).trans HR1.out) 0
    have rz := unfrozen_of_blk ((hb2.block _ l2).trans HR1.out) 0
    simp only [List.getElem?_toArray, List.getElem?_cons_zero] at s2 r2
    have HS2 := Lib.hid ((hb2.block _ l1).trans HS1.out)
    have HR2 := Lib.hid ((hb2.block _ l2).trans HR1.out)
    have hH2 : Holds (fun b => b = w.heap.size + 1 ∨ b = w.heap.size + 2) W W2 := HH1.out.trans (.of_below hb2)
    have hB2 : Below w.heap.size w W2 := HB1.out.trans (hb2.mono HB1.out.size)
    have finR : ¬ (okK x = true ∧ d ≤ 8 ∧ pre.length + 1 ≤ 30) → Holds (fun b => b = w.heap.size + 1 ∨ b = w.heap.size + 2) W (W2.setCell ⟨w.heap.size + 1, 0, none⟩ (.bool false)) ∧
        ((W2.setCell ⟨w.heap.size + 1, 0, none⟩ (.bool false)).cell? ⟨w.heap.size + 1, 0, none⟩ = some (.bool false) ∧ t.valid = false ∧ Below w.heap.size w (W2.setCell ⟨w.heap.size + 1, 0, none⟩ (.bool false))) := fun hv =>
      ⟨hH2.setCell ⟨w.heap.size + 1, 0, none⟩ (Or.inl rfl) _, World.cell?_setCell_same' _ _ _ (by rw [r2]; rfl), invalid_at HP.out hv, hB2.setCell (p := ⟨w.heap.size + 1, 0, none⟩) (by show w.heap.size ≤ w.heap.size + 1; omega) _⟩
    have finN : okK x = true → d ≤ 8 → pre.length + 1 ≤ 30 → Holds (fun b => b = w.heap.size + 1 ∨ b = w.heap.size + 2) W W2 ∧
        (W2.heap[w.heap.size + 1]? = some (.cells #[.bool false] 4 (0, 0)) ∧ W2.heap[w.heap.size + 1 + 1]? = some (.cells #[.int .i64 ((pre ++ [(x, d)]).length : Nat)] 3 (0, 0)) ∧ SoFar (pre ++ [(x, d)]) ∧ Below w.heap.size w W2) := fun h1 h2 h3 =>
      ⟨hH2, HR2.out, by rw [HS2.out, List.length_append, List.length_singleton]; rfl, HSO.out.next h1 h2 h3, hB2⟩
    have FR := Lib.hid finR
    have FN := Lib.hid finN
    have hok := okK_kind x
    have HOK := Lib.hid hok
    clear finR finN hH2 hB2 hb2 hok s0 sz x0 x1 hlx l1 l2
    have body : ∀ u, kindV x.kind x.args.length = .iface u (.agg #[]) → okK x = true → True := fun _ _ _ => trivial
    clear body
    rcases kindV_cases x.kind x.args.length with ⟨hc, hk⟩ | ⟨hc, hk⟩ | ⟨hc, hk⟩ | ⟨hc, hk⟩ | ⟨hc, hk⟩
    iterate 4
      (rw [hk]
       have HO1 := Lib.hid (HOK.out.2 (by omega))
       clear hc hk
       by_cases h30 : pre.length + 1 ≤ 30
       · by_cases h8 : d ≤ 8
         · gi_wp2_with fail
           exact FN.out HO1.out h8 h30
         · gi_wp2_with fail
           exact (fun h => ⟨h.1, rfl, h.2⟩) (FR.out (fun h => h8 h.2.1))
       · gi_wp2_with fail
         exact (fun h => ⟨h.1, rfl, h.2⟩) (FR.out (fun h => h30 h.2.2)))
    rw [hk]
    have HO1 := Lib.hid (fun h => by have := HOK.out.1 h; omega : ¬ okK x = true)
    clear hc hk
    gi_wp2_with fail
    exact (fun h => ⟨h.1, rfl, h.2⟩) (FR.out (fun h => HO1.out h.1))
  case done =>
    rintro D W hD ⟨hr, _, hso, hB⟩ hK
    have r0 := cell_of_blk hr 0
    have rz := unfrozen_of_blk hr 0
    simp only [List.getElem?_toArray, List.getElem?_cons_zero] at r0
    have HV := Lib.hid hso.valid
    have HB := Lib.hid hB
    have HK := Lib.hid hK
    have hK' : (W.setCell ⟨w.heap.size + 1, 0, none⟩ (.bool true)).heap[D]? = some (.deferred (some [])) := (Below.heap_setCell _ _ _ _ (by show D ≠ w.heap.size + 1; omega)).trans hK
    clear hso hB hr hK k0 k1 k2 k3 HSL hbl hwl
    gi_wp2_with fail
    refine ⟨by simp, .inl ⟨_, _, rfl, run_takeDeferred hK', ?_⟩⟩
    have hc := (World.cell?_of_block (a := ⟨w.heap.size + 1, 0, none⟩) (w' := (W.setCell ⟨w.heap.size + 1, 0, none⟩ (.bool true)).putObj D (.deferred none)) (World.putObj_heap_other (by show w.heap.size + 1 ≠ D; omega))).trans (World.cell?_setCell_same' W ⟨w.heap.size + 1, 0, none⟩ (.bool true) (by rw [r0]; rfl))
    refine ⟨.bool true, ?_, _, HV.out.symm, rfl, (HB.out.setCell (p := ⟨w.heap.size + 1, 0, none⟩) (by show w.heap.size ≤ w.heap.size + 1; omega) _).trans (below_putObj _ _ _ _ (by omega))⟩
    rw [results_cell1 rfl]
    go_simp
  case stop =>
    rintro D c pre W hD hpre ⟨rfl, hr, hv, hB⟩ hK
    have HB := Lib.hid hB
    have HV := Lib.hid hv
    clear hv hB k0 k1 k2 k3 HSL hbl hwl
    gi_wp2_with fail
    refine ⟨by simp, .inl ⟨_, _, rfl, run_takeDeferred hK, ?_⟩⟩
    have hc := (World.cell?_of_block (a := ⟨w.heap.size + 1, 0, none⟩) (w' := W.putObj D (.deferred none)) (World.putObj_heap_other (by show w.heap.size + 1 ≠ D; omega))).trans hr
    refine ⟨.bool false, ?_, _, HV.out.symm, rfl, HB.out.trans (below_putObj _ _ _ _ (by omega))⟩
    rw [results_cell1 rfl]
    go_simp
#print axioms validI_any
end Go.Proofs.Ytgeliljanljmmaa

