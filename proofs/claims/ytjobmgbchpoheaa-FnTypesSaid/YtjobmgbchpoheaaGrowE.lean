/-
  The contract of the program's EraseType: a tree that grows from a seed (growTree, at types).
-/
import Derived.Test.YtjobmgbchpoheaaGrowA
namespace Go.Proofs.Ytjobmgbchpoheaa
open Go Go.RowKit

/-- What waits, the next one last: a place with its slice's value. -/
abbrev Jobs := List (Job × Value)
def tcells (st : Jobs) : List Value := st.flatMap fun e => [.int .i64 e.1.x.kind, e.2, .pointer (some ⟨e.1.b, e.1.o, none⟩)]
theorem tcells_length (st : Jobs) : (tcells st).length = st.length * 3 := by
  induction st with
  | nil => rfl
  | cons e st ih => simp only [tcells, List.flatMap_cons, List.length_append, List.length_cons, List.length_nil] at *; omega
theorem tcells_snoc (st : Jobs) (e : Job × Value) : tcells (st ++ [e]) = tcells st ++ [.int .i64 e.1.x.kind, e.2, .pointer (some ⟨e.1.b, e.1.o, none⟩)] := by simp [tcells]
theorem tcells_take (st : Jobs) (e : Job × Value) : (tcells (st ++ [e])).take (st.length * 3) = tcells st := by
  rw [tcells_snoc, ← tcells_length, List.take_left]
theorem tcells_last (st : Jobs) (e : Job × Value) : (tcells (st ++ [e]))[st.length * 3]? = some (.int .i64 e.1.x.kind) ∧ (tcells (st ++ [e]))[st.length * 3 + 1]? = some e.2 ∧ (tcells (st ++ [e]))[st.length * 3 + 2]? = some (.pointer (some ⟨e.1.b, e.1.o, none⟩)) := by
  have h := tcells_length st
  rw [tcells_snoc]
  refine ⟨?_, ?_, ?_⟩ <;> (rw [List.getElem?_append_right (by omega), h]; simp)
def tload (st : Jobs) : Nat := (st.map fun e => e.1.x.nodes).sum
theorem tload_snoc (st : Jobs) (e : Job × Value) : tload (st ++ [e]) = tload st + e.1.x.nodes := by simp [tload]
theorem tload_ge (st : Jobs) : st.length ≤ tload st := by
  induction st with
  | nil => simp [tload]
  | cons e st ih =>
    have := e.1.x.nodes_eq
    simp only [tload, List.map_cons, List.sum_cons, List.length_cons] at *
    omega
theorem infoTk : (Try.prog.info? 75).map (fun i => (i.zero, i.size, i.bytes)) = some (some (.agg #[.int .i64 0, .slice none 0 0, .pointer none]), 3, 40) := by kernel_rfl

theorem OS.bound {w : World} {F : Nat → Prop} {ts : List Ty} {v : Value} (h : OS w ts v F) : OS w ts v (fun b => F b ∧ b < w.heap.size) := by
  induction h with
  | none F => exact .none _
  | row K S G hrow hm hF hk hr hG hd ih =>
    exact .row K S (fun j b => G j b ∧ b < w.heap.size) hrow hm ⟨hF, hrow.lt⟩ hk ih (fun j x hj hx => ⟨⟨(hG j x hj hx.1).1, hx.2⟩, (hG j x hj hx.1).2⟩) (fun i j x hi hj hij h1 h2 => hd i j x hi hj hij h1.1 h2.1)

theorem loop_world3 (w : World) (A B A' : Array Value) (tA tB tA' : TypeId) : ∃ wl : World, ((w.alloc (.cells A tA)).alloc (.cells B tB)).alloc (.cells A' tA') = wl ∧ wl.heap.size = w.heap.size + 1 + 1 + 1 ∧ Below w.heap.size w wl ∧
    wl.heap[w.heap.size]? = some (.cells A tA (0, 0)) ∧ wl.heap[w.heap.size + 1]? = some (.cells B tB (0, 0)) ∧ wl.heap[w.heap.size + 1 + 1]? = some (.cells A' tA' (0, 0)) := by
  have s1 : (w.alloc (.cells A tA)).heap.size = w.heap.size + 1 := by simp
  have s2 : ((w.alloc (.cells A tA)).alloc (.cells B tB)).heap.size = w.heap.size + 1 + 1 := by simp
  refine ⟨_, rfl, by simp, (((Below.refl _ w).alloc (Nat.le_refl _) _).alloc (by simp) _).alloc (by simp; omega) _, ?_, ?_, ?_⟩
  · rw [Below.heap_alloc _ _ _ (by simp; omega), Below.heap_alloc _ _ _ (by simp)]
    exact blk_new _ _
  · rw [Below.heap_alloc _ _ _ (by simp), ← s1]
    exact blk_new _ _
  · rw [← s2]
    exact blk_new _ _

theorem cell_setCell_ne {w : World} {b o c q : Nat} {v : Value} (h : ¬ (c = b ∧ q = o)) : (w.setCell ⟨b, o, none⟩ v).cell? ⟨c, q, none⟩ = w.cell? ⟨c, q, none⟩ := by
  by_cases hc : c = b
  · subst hc
    have hq : q ≠ o := fun e => h ⟨rfl, e⟩
    unfold World.cell?
    simp only [World.setCell, Array.getElem?_modify]
    cases hw : w.heap[c]? with
    | none => simp
    | some ob =>
      simp only [if_true, Option.map_some]
      cases ob <;> simp [Array.getElem?_setIfInBounds_ne (Ne.symm hq)]
  · exact World.cell?_of_block (Below.heap_setCell _ _ _ _ hc)

theorem row_ne {w : World} {base : Nat} {e e' : TypeId} {size n g cap b : Nat} {xs : List Value} {cs : Array Value} {fr : Nat × Nat} (h : w.ownsRow base e size (.slice (some ⟨g, 0, none⟩) n cap) n xs) (hb : w.heap[b]? = some (.cells cs e' fr)) (hne : e' ≠ e) : g ≠ b := by
  rintro rfl
  rcases h.2 with h0 | ⟨g', cap', cur, hv, hg, hblk, _⟩
  · exact absurd h0.1 (by simp)
  · simp only [Value.slice.injEq, Option.some.injEq, Addr.mk.injEq, true_and, and_true] at hv
    obtain ⟨rfl, rfl⟩ := hv
    rw [hb] at hblk
    simp only [Option.some.injEq, Obj.cells.injEq] at hblk
    exact hne hblk.2.1

structure ES (w wr : World) (t : Ty) (st : Jobs) (g cap : Nat) (U : Nat → Prop) : Prop where
  own : wr.ownsRow w.heap.size 75 3 (.slice (some ⟨g, 0, none⟩) st.length cap) st.length (tcells st)
  ts : ∀ e ∈ st, TS w (· < w.heap.size) e.1.x.args e.2
  inv : EInv wr U (st.map (·.1)) (w.heap.size + 1 + 1) t.erase
  gU : ¬ U g
  res : wr.heap[w.heap.size + 1]? = some (.cells #[.int .i64 0, .slice none 0 0] 26 (0, 0))
  below : Below w.heap.size w wr

theorem tk_fill {w w' : World} {b o : Nat} (h : w'.heap[b]? = w.heap[b]?) : w'.cell? ⟨b, o, none⟩ = w.cell? ⟨b, o, none⟩ := World.cell?_of_block (a := ⟨b, o, none⟩) h
set_option maxRecDepth 100000 in
set_option maxHeartbeats 4000000 in
theorem growE_any {C : Nat → Prop} {t : Ty} {p : Option Addr} {c : Nat} {w : World} (hS : TS w C t.args (.slice p t.args.length c)) (hn : t.nodes ≤ 1048577) :
    Calls Try.prog 32 #[.agg #[.int .i64 t.kind, .slice p t.args.length c], .func (.func 33) #[] #[], .func (.func 34) #[] #[]] w (NewT t.erase w) := by
  obtain ⟨i0, hi, hz0, hz1, hz2⟩ := info_parts infoTk
  have HS := Lib.hid (hS.mono (C' := (· < w.heap.size)) (fun b _ h => h))
  clear hS
  go_enter Try.func32, Try.ntmps32
  go_wp2_with fail
  go_loopg [8] t.nodes (fun gk v wr => ∃ (st : Jobs) (g cap : Nat) (U : Nat → Prop), v = .slice (some ⟨g, 0, none⟩) st.length cap ∧ gk = tload st ∧ tload st ≤ t.nodes ∧ ES w wr t st g cap U)
  case atStart =>
    obtain ⟨wl, hwl, hsz, hbl, q0, q1, q2⟩ := loop_world3 w #[.int .i64 t.kind, .slice p t.args.length c] #[.int .i64 0, .slice none 0 0] #[.int .i64 0, .slice none 0 0] 26 26 26
    rw [hwl]
    have hb4 := (Below.refl wl.heap.size wl).alloc (Nat.le_refl _) (.cells #[.int .i64 t.kind, .slice p t.args.length c, .pointer (some ⟨w.heap.size + 1 + 1, 0, none⟩)] 75)
    refine ⟨[(⟨t, w.heap.size + 1 + 1, 0⟩, .slice p t.args.length c)], w.heap.size + 1 + 1 + 1, 1, fun b => b = w.heap.size + 1 + 1, rfl, by simp [tload], by simp [tload], ?_, ?_, ?_, by omega, ?_, ?_⟩
    · have h1 := World.ownsRow_lit (base := w.heap.size) (e := 75) (size := 3) wl #[.int .i64 t.kind, .slice p t.args.length c, .pointer (some ⟨w.heap.size + 1 + 1, 0, none⟩)] 1 (by omega) (by unfold maxLen; omega) rfl
      rw [hsz] at h1
      exact h1
    · intro e he
      simp only [List.mem_singleton] at he
      subst he
      exact HS.out
    · exact (EInv.start q2).frame hb4.size (fun c hc => hb4.block c (by omega))
    · exact (hb4.block _ (by omega)).trans q1
    · exact hbl.trans (hb4.mono hbl.size)
  case round =>
    obtain ⟨st, g, cap, U, rfl, rfl, hle, hM⟩ := hrel
    rename World => wo
    rcases snoc_cases st with rfl | ⟨st0, e, rfl⟩
    · have HM := Lib.hid hM
      obtain ⟨sr, r0, r1, ro⟩ := hM.inv.done
      obtain ⟨pr, cr, rfl⟩ := ro.form
      have q0 := cell_of_blk hM.res 0
      have q1 := cell_of_blk hM.res 1
      have qz := unfrozen_of_blk hM.res
      simp only [List.getElem?_toArray, List.getElem?_cons_zero, List.getElem?_cons_succ] at q0 q1
      have HRO := Lib.hid ro
      clear hM ro
      go_wp2_with fail
      refine bodyPost_ret (v := .agg #[.int .i64 t.erase.kind, .slice pr t.erase.args.length cr]) ?_ rfl ?_
      · rw [results_cell1 rfl]
        go_simp
      · have hst : ∀ F : Nat → Prop, ¬ F (w.heap.size + 1) → Stays F wo ((wo.setCell ⟨w.heap.size + 1, 0, none⟩ (.int .i64 t.erase.kind)).setCell ⟨w.heap.size + 1, 1, none⟩ (.slice pr t.erase.args.length cr)) := fun F hF => (setCell_stays _ _ _ _ F hF).trans (setCell_stays _ _ _ _ F hF)
        refine ⟨_, rfl, ⟨_, rfl, ((HRO.out.stays (hst _ (by omega))).bound).mono (fun b hb => ⟨by omega, hb.2⟩)⟩, (HM.out.below.setCell (p := ⟨w.heap.size + 1, 0, none⟩) (by show w.heap.size ≤ w.heap.size + 1; omega) _).setCell (p := ⟨w.heap.size + 1, 1, none⟩) (by show w.heap.size ≤ w.heap.size + 1; omega) _⟩
    · obtain ⟨⟨x, b, o⟩, s⟩ := e
      have hT := hM.ts (⟨x, b, o⟩, s) (by simp)
      simp only at hT
      obtain ⟨p1, c1, rfl⟩ := hT.form
      have hlx := hT.len
      have hlen : (st0 ++ [((⟨x, b, o⟩, Value.slice p1 x.args.length c1) : Job × Value)]).length = st0.length + 1 := by simp
      have hown := hM.own
      rw [hlen] at hown
      rw [hlen]
      obtain ⟨hcap1, hcap2, hg1, hg2⟩ := row_cap hown
      have k0 := (hown.cellAt (st0.length * 3) (by omega)).trans (tcells_last st0 _).1
      have k1 := (hown.cellAt (st0.length * 3 + 1) (by omega)).trans (tcells_last st0 _).2.1
      have k2 := (hown.cellAt (st0.length * 3 + 2) (by omega)).trans (tcells_last st0 _).2.2
      simp only at k0 k1 k2
      unfold maxLen at hcap2
      have hlx0 : (tload st0 + x.nodes) ≤ t.nodes := by rw [tload_snoc] at hle; exact hle
      have HLE := Lib.hid hlx0
      obtain ⟨wn, hwn, hsn, hbn, rn⟩ := box_new wo #[.int .i64 x.kind, .slice p1 x.args.length c1, .pointer (some ⟨b, o, none⟩)] 75
      have HC := Lib.hid (erN_any (hM.below.trans (hbn.mono hM.below.size)) hT (by omega))
      have HM := Lib.hid hM
      have HT := Lib.hid hT
      have HOWN := Lib.hid hown
      have HWN := Lib.hid (And.intro hsn (And.intro hbn rn))
      have HWW := Lib.hid hwn
      clear hM hT hown hle hlx0 hsn hbn rn hwn
      have i0' : (0 : Int) ≤ (st0.length : Int) := Int.natCast_nonneg _
      have i1' : (st0.length : Int) < ((st0.length : Int) + 1) := by omega
      go_wp2_with fail
      rw [HWW.out]
      refine HC.out.mono ?_
      rintro e w1 ⟨y, py, cy, s', rfl, hyn, hyx, hty, hpart, hb1⟩
      obtain ⟨ps, cs, rfl⟩ := part_slice hpart
      obtain ⟨hsn, hbn, rn⟩ := HWN.out
      have hb01 : Below wo.heap.size wo w1 := hbn.trans (hb1.mono hbn.size)
      have rn1 := (hb1.block wo.heap.size (by omega)).trans rn
      have hmap : (st0 ++ [((⟨x, b, o⟩, Value.slice p1 x.args.length c1) : Job × Value)]).map (·.1) = st0.map (·.1) ++ [⟨x, b, o⟩] := by simp
      have inv1 : EInv w1 U (st0.map (·.1) ++ [⟨x, b, o⟩]) (w.heap.size + 1 + 1) t.erase := hmap ▸ (HM.out.inv.frame hb01.size (fun k hk => hb01.block k (HM.out.inv.lt k hk).2.1))
      obtain ⟨wB, hwB, hsB, hbB, rB⟩ := box_new w1 #[.int .i64 y.kind, .slice ps y.args.length cs] 26
      have inv2 : EInv wB U (st0.map (·.1) ++ [⟨x, b, o⟩]) (w.heap.size + 1 + 1) t.erase := inv1.frame hbB.size (fun k hk => hbB.block k (inv1.lt k hk).2.1)
      obtain ⟨hUb, ⟨q0, l0⟩, ⟨u0, l1⟩, hpar⟩ := inv2.loc ⟨x, b, o⟩ (by simp)
      simp only at hUb l0 l1 hpar
      obtain ⟨hRb, hbw1, cur1, hcur1⟩ := inv2.lt b hUb
      have hbo : b < wo.heap.size := (HM.out.inv.lt b hUb).2.1
      have hs01 := hb01.size
      have hsz1 := hb1.size
      have lz := unfrozen_of_blk hcur1
      have rn2 := (hbB.block wo.heap.size (by omega)).trans rn1
      have n2 := cell_of_blk rn2 2
      have q0 := cell_of_blk rB 0
      have q1 := cell_of_blk rB 1
      simp only [List.getElem?_toArray, List.getElem?_cons_zero, List.getElem?_cons_succ] at n2 q0 q1
      obtain ⟨wk, hwk⟩ : ∃ wk, wB.setCell ⟨b, o, none⟩ (.int .i64 y.kind) = wk := ⟨_, rfl⟩
      have hblk1 : wk.heap[b]? = some (.cells (cur1.setIfInBounds o (.int .i64 y.kind)) 26 (0, 0)) := hwk ▸ Go.Joins.block_setCell hcur1 _
      have l1' : wk.cell? ⟨b, o + 1, none⟩ = some u0 := hwk ▸ (cell_setCell_ne (by omega)).trans l1
      have lz' := unfrozen_of_blk hblk1
      obtain ⟨wm, hwm⟩ : ∃ wm, wk.setCell ⟨b, o + 1, none⟩ (.slice ps y.args.length cs) = wm := ⟨_, rfl⟩
      have hsk : wk.heap.size = wB.heap.size := by rw [← hwk]; simp [World.setCell]
      have hsm : wm.heap.size = wB.heap.size := by rw [← hwm]; simp [World.setCell, hsk]
      have hother : ∀ z, z ≠ b → wm.heap[z]? = wB.heap[z]? := fun z hz => by
        rw [← hwm, Below.heap_setCell _ _ _ _ (by show z ≠ b; exact hz), ← hwk, Below.heap_setCell _ _ _ _ (by show z ≠ b; exact hz)]
      have hblkm : wm.heap[b]? = some (.cells ((cur1.setIfInBounds o (.int .i64 y.kind)).setIfInBounds (o + 1) (.slice ps y.args.length cs)) 26 (0, 0)) := hwm ▸ Go.Joins.block_setCell hblk1 _
      have rBm := (hother w1.heap.size (by omega)).trans rB
      have q0m := cell_of_blk rBm 0
      have q1m := cell_of_blk rBm 1
      simp only [List.getElem?_toArray, List.getElem?_cons_zero, List.getElem?_cons_succ] at q0m q1m
      have hBm : Below w.heap.size w wm := by
        rw [← hwm, ← hwk]
        exact set2_below ((HM.out.below.trans (hb01.mono HM.out.below.size)).trans (hbB.mono (Nat.le_trans HM.out.below.size hs01))) (by omega)
      have hkm : wm.cell? ⟨b, o, none⟩ = some (.int .i64 y.kind) := by
        rw [← hwm]
        refine (cell_setCell_ne (by omega)).trans ?_
        rw [← hwk]
        exact World.cell?_setCell_same' _ _ _ (by rw [l0]; rfl)
      have ham : wm.cell? ⟨b, o + 1, none⟩ = some (.slice ps y.args.length cs) := by
        rw [← hwm]
        exact World.cell?_setCell_same' _ _ _ (by rw [l1']; rfl)
      have hsame : ∀ c, U c → ∀ q, ¬ (c = b ∧ (q = o ∨ q = o + 1)) → wm.cell? ⟨c, q, none⟩ = wB.cell? ⟨c, q, none⟩ := fun c hc q hq => by
        rw [← hwm]
        refine (cell_setCell_ne (fun h => hq ⟨h.1, Or.inr h.2⟩)).trans ?_
        rw [← hwk]
        exact cell_setCell_ne (fun h => hq ⟨h.1, Or.inl h.2⟩)
      have hshape : ∀ c, U c → ∀ cur : Array Value, wB.heap[c]? = some (.cells cur 26 (0, 0)) → ∃ cur' : Array Value, wm.heap[c]? = some (.cells cur' 26 (0, 0)) ∧ cur'.size = cur.size := fun c hc cur hcur => by
        by_cases hcb : c = b
        · subst hcb
          rw [hcur1] at hcur
          simp only [Option.some.injEq, Obj.cells.injEq, and_true] at hcur
          subst hcur
          exact ⟨_, hblkm, by simp⟩
        · exact ⟨cur, (hother c hcb).trans hcur, rfl⟩
      have invN : EInv wn U (st0.map (·.1) ++ [⟨x, b, o⟩]) (w.heap.size + 1 + 1) t.erase := hmap ▸ (HM.out.inv.frame hbn.size (fun k hk => hbn.block k (HM.out.inv.lt k hk).2.1))
      have hUN : ∀ z, U z → wB.heap[z]? = wn.heap[z]? := fun z hz => by
        have hz1 := (invN.lt z hz).2.1
        exact (hbB.block z (by omega)).trans (hb1.block z hz1)
      have hsameN : ∀ c, U c → ∀ q, ¬ (c = b ∧ (q = o ∨ q = o + 1)) → wm.cell? ⟨c, q, none⟩ = wn.cell? ⟨c, q, none⟩ := fun c hc q hq => (hsame c hc q hq).trans (World.cell?_of_block (a := ⟨c, q, none⟩) (hUN c hc))
      have hshapeN : ∀ c, U c → ∀ cur : Array Value, wn.heap[c]? = some (.cells cur 26 (0, 0)) → ∃ cur' : Array Value, wm.heap[c]? = some (.cells cur' 26 (0, 0)) ∧ cur'.size = cur.size := fun c hc cur hcur => hshape c hc cur ((hUN c hc).trans hcur)
      obtain ⟨U', bb, hEI, hps, hU'⟩ : ∃ (U' : Nat → Prop) (bb : Nat), EInv wm U' (st0.map (·.1) ++ kidsOf bb y.args) (w.heap.size + 1 + 1) t.erase ∧ (0 < y.args.length → ps = some ⟨bb, 0, none⟩) ∧ ∀ z, U' z → U z ∨ wn.heap.size ≤ z := by
        rcases hpart with ⟨h0, h1⟩ | ⟨b', cc, K, S, h1, h2, h3, h4⟩
        · have hnil : y.args = [] := List.eq_nil_of_length_eq_zero h0
          refine ⟨U, 0, ?_, fun h => by omega, fun z hz => Or.inl hz⟩
          have := invN.leaf (y := y) (by rw [hyn, hnil]; rfl) (by omega) hsameN hshapeN hkm (by rw [ham, h1])
          rw [hnil]
          simpa [kidsOf] using this
        · simp only [Value.slice.injEq, true_and] at h1
          obtain ⟨rfl, rfl⟩ := h1
          refine ⟨_, b', invN.node (y := y) hyn (by omega) hsameN hshapeN hkm (b' := b') h2 ((h4.below hbB).of_block (hother b' (by omega))) h3 ham, fun _ => rfl, fun z hz => ?_⟩
          · rcases hz with hz | rfl
            · exact Or.inl hz
            · exact Or.inr h2
      have hown1 : wm.ownsRow w.heap.size 75 3 (.slice (some ⟨g, 0, none⟩) st0.length cap) st0.length (tcells st0) := by
        have hgb : g ≠ b := fun e => HM.out.gU (e ▸ hUb)
        have h2 := row_take (row_of_block HOWN.out ((hother g hgb).trans ((hbB.block g (by omega)).trans (hb01.block g hg2)))) (Nat.le_succ _)
        rw [tcells_take] at h2
        exact h2
      have hresm : wm.heap[w.heap.size + 1]? = some (.cells #[.int .i64 0, .slice none 0 0] 26 (0, 0)) := by
        have hlt := (Array.getElem?_eq_some_iff.1 HM.out.res).1
        exact (hother _ (by omega)).trans ((hbB.block _ (by omega)).trans ((hb01.block _ hlt).trans HM.out.res))
      have hlps : y.args.length ≤ 9223372036854775807 := hty.len
      have HTY := Lib.hid hty
      have HEI := Lib.hid hEI
      have HPS := Lib.hid hps
      have HU' := Lib.hid hU'
      have HOW := Lib.hid hown1
      have HRES := Lib.hid hresm
      have HBM := Lib.hid hBm
      have HWM := Lib.hid hwm
      have HWK := Lib.hid hwk
      have HWB := Lib.hid hwB
      have HNY := Lib.hid (And.intro hyx (show y.nodes = 1 + nodesS y.args from y.nodes_eq))
      have HUB := Lib.hid hUb
      have HSZ := Lib.hid (And.intro hsm (And.intro hsB (And.intro hsz1 hs01)))
      rw [← hwB] at n2 q0 q1 l0 l1 lz
      rw [← hwk, ← hwB] at l1' lz'
      rw [← hwm, ← hwk, ← hwB] at q0m q1m
      clear hty hEI hps hU' hown1 hresm hBm hwm hwk hwB hyx hyn hpart hb1 hsn hbn rn hb01 rn1 hmap inv1 hsB hbB rB inv2 hRb hbw1 hcur1 hbo hs01 hsz1 rn2 hblk1 hsk hsm hother hblkm rBm hkm ham hsame hshape invN hUN hsameN hshapeN HC HWN HWW k0 k1 k2 hUb
      go_wp2_with fail
      rw [HWB.out, HWK.out, HWM.out]
      refine (argsT_any _ _ _ _ _).mono ?_
      rintro e w2 ⟨rfl, hb2⟩
      have hs2 := hb2.size
      have inv3 : EInv w2 U' (st0.map (·.1) ++ kidsOf bb y.args) (w.heap.size + 1 + 1) t.erase := HEI.out.frame hs2 (fun k hk => hb2.block k (HEI.out.lt k hk).2.1)
      have HI3 := Lib.hid inv3
      have HO3 := Lib.hid (row_below HOW.out hb2)
      have HR3 := Lib.hid ((hb2.block _ (Array.getElem?_eq_some_iff.1 HRES.out).1).trans HRES.out)
      have HB3 := Lib.hid (HBM.out.trans (hb2.mono HBM.out.size))
      clear hb2 inv3 hs2 n2 q0 q1 l0 l1 lz l1' lz' q0m q1m hpar
      go_wp2_with fail
      go_loopw [8, 47] (fun v i wr => ∃ (k : Nat) (stx : Jobs) (g' cap' : Nat), v = .slice (some ⟨g', 0, none⟩) stx.length cap' ∧ i = .int .i64 k ∧ k ≤ y.args.length ∧ wr.ownsRow w.heap.size 75 3 (.slice (some ⟨g', 0, none⟩) stx.length cap') stx.length (tcells stx) ∧
        (∀ e ∈ stx, TS w (· < w.heap.size) e.1.x.args e.2) ∧ stx.map (·.1) = st0.map (·.1) ++ (kidsOf bb y.args).take k ∧ tload stx = tload st0 + nodesS (y.args.take k) ∧ (∀ c, U' c → wr.heap[c]? = w2.heap[c]?) ∧
        wr.heap[w.heap.size + 1]? = some (.cells #[.int .i64 0, .slice none 0 0] 26 (0, 0)) ∧ Below w.heap.size w wr ∧ w2.heap.size ≤ wr.heap.size) (fun _ i _ => y.args.length - (intOf i).toNat)
      case atStart => exact ⟨0, st0, g, cap, rfl, rfl, Nat.zero_le _, HO3.out, fun e he => HM.out.ts e (List.mem_append_left _ he), by simp, by simp [nodesS], fun _ _ => rfl, HR3.out, HB3.out, Nat.le_refl _⟩
      case round =>
        obtain ⟨k, stx, g', cap', rfl, rfl, hk, hox, htx, hmx, hlx2, hux, hrx, hBx, hsx⟩ := hrel
        have HOX := Lib.hid hox
        have HTX := Lib.hid htx
        have HMX := Lib.hid hmx
        have HLX := Lib.hid hlx2
        have HUX := Lib.hid hux
        have HRX := Lib.hid hrx
        have HBB := Lib.hid hBx
        have HSX := Lib.hid hsx
        clear hox htx hmx hlx2 hux hrx hBx hsx
        by_cases hlk : k < y.args.length
        · have e1 := List.getElem?_eq_getElem hlk
          obtain ⟨b3, o3, p', c', hpy, hcs, hTk⟩ := (HTY.out.mono (C' := fun _ => True) (fun _ _ _ => trivial)).at k _ e1
          subst hpy
          obtain ⟨f1, f2⟩ := hcs wr (⟨HBB.out.size, fun z _ hl => HBB.out.block z hl⟩)
          have hb3lt : b3 < w.heap.size := by
            obtain ⟨b4, o4, p4, c4, hq4, hcs4, -⟩ := HTY.out.at k _ e1
            simp only [Option.some.injEq, Addr.mk.injEq, and_true] at hq4
            obtain ⟨rfl, rfl⟩ := hq4
            exact World.block_lt_of_cell? w _ (hcs4 w (.of_below (Below.refl _ _))).1
          have hpsk := HPS.out (by omega)
          subst hpsk
          have hbnd : stx.length ≤ 1048577 := by
            have h1 := tload_ge stx
            have h2 := HLX.out
            have h3 := nodesS_take_le y.args k
            have h4 := HLE.out
            obtain ⟨h5, h6⟩ := HNY.out
            omega
          have HO0 := Lib.hid (show (wr.drew).ownsRow w.heap.size 75 3 (.slice (some ⟨g', 0, none⟩) stx.length cap') stx.length (tcells stx) from row_below HOX.out (Below.refl wr.heap.size wr).drew)
          have hgg := (row_cap HOX.out).2.2.1
          have hsz6 : w.heap.size ≤ wr.heap.size := HBB.out.size
          have HKA := Lib.hid (fun (w' : World) (g2 cap2 : Nat) (hA : Appd wr.drew w' w.heap.size 75 3 (.slice (some ⟨g', 0, none⟩) stx.length cap') stx.length (tcells stx) [.int .i64 y.args[k].kind, .slice p' y.args[k].args.length c', .pointer (some ⟨bb, k * 2, none⟩)] g2 cap2) =>
            (⟨keepApp hA f1 (fun e => by simp [Value.ownBlock] at e; omega), keepApp hA f2 (fun e => by simp [Value.ownBlock] at e; omega)⟩ :
              w'.cell? ⟨b3, o3 + k * 2, none⟩ = some (.int .i64 y.args[k].kind) ∧ w'.cell? ⟨b3, o3 + k * 2 + 1, none⟩ = some (.slice p' y.args[k].args.length c')))
          have HTK : Hid (TS w (· < w.heap.size) y.args[k].args (.slice p' y.args[k].args.length c')) := Lib.hid (hTk.mono (fun z _ hl => hl))
          have ii0 : (0 : Int) ≤ (k : Int) := Int.natCast_nonneg _
          have ii1 : (k : Int) < (y.args.length : Int) := by omega
          clear hcs hTk e1
          go_wp2_with fail
          go_region_held3 (fun w' => w'.cell? ⟨b3, o3 + k * 2, none⟩ = some (.int .i64 y.args[k].kind) ∧ w'.cell? ⟨b3, o3 + k * 2 + 1, none⟩ = some (.slice p' y.args[k].args.length c'))
            (first
              | exact HKA.out _ _ _ hA
              | (go_keep; done)
              | exact ⟨f1, f2⟩)
            (first
              | (refine step_app1 (w0 := wr.drew) (v := .slice (some ⟨g', 0, none⟩) stx.length cap') (n := stx.length) (xs := tcells stx) rfl (.tmp 50) (.tmp 59) rfl Try.underlying76 hi hz0 hz1 hz2 rfl (by decide) rfl HO0.out _ rfl (by simp) rfl (fun u hu => by simp at hu; rcases hu with rfl | rfl | rfl <;> rfl) (by unfold maxLen; omega) (by omega) (by simp; omega) ?_; intro w' g2 cap2 hA))
          rename_i hH
          have HA := Lib.hid hA
          clear hH hA f1 f2
          go_wp2_with fail
          go_roundw
          case rel =>
            have keepB : ∀ (cc : Nat) (cs : Array Value), wr.heap[cc]? = some (.cells cs 26 (0, 0)) → w'.heap[cc]? = wr.heap[cc]? := fun cc cs hcc => by
              have hlt := (Array.getElem?_eq_some_iff.1 hcc).1
              exact (HA.out.kept cc hlt (fun e => row_ne HOX.out hcc (by decide) (by simpa [Value.ownBlock] using e))).1
            have hinv : EInv wr U' _ (w.heap.size + 1 + 1) t.erase := HI3.out.frame HSX.out HUX.out
            have hown' := HA.out.own
            have hszA := HA.out.size
            have hsx2 := HSX.out
            refine ⟨k + 1, stx ++ [(⟨y.args[k], bb, k * 2⟩, .slice p' y.args[k].args.length c')], g2, cap2, by rw [List.length_append]; rfl, by go_num, by omega, ?_, ?_, ?_, ?_, fun cc hcc => ?_, (keepB _ _ HRX.out).trans HRX.out, HBB.out.trans ((Below.refl _ wr).drew.trans HA.out.below), ?_⟩
            · rw [List.length_append, tcells_snoc]
              exact hown'
            · intro e he
              rcases List.mem_append.1 he with he | he
              · exact HTX.out e he
              · simp only [List.mem_singleton] at he
                subst he
                exact HTK.out
            · rw [List.map_append, HMX.out, List.take_add_one, kidsOf_get (List.getElem?_eq_getElem hlk), List.append_assoc]
              rfl
            · rw [tload_snoc, HLX.out, nodesS_take_next _ _ hlk, Nat.add_assoc]
            · obtain ⟨_, _, cur, hcur⟩ := hinv.lt cc hcc
              exact (keepB cc cur hcur).trans (HUX.out cc hcc)
            · have h1 : wr.heap.size ≤ wr.drew.heap.size := Nat.le_refl _
              omega
          case measure => simp [intOf]; omega
        · obtain rfl : k = y.args.length := by omega
          go_wp2_with fail
          go_roundg (tload stx)
          case rel =>
            have h1 := HLE.out
            have h2 := HLX.out
            rw [List.take_length] at h2
            obtain ⟨h3, h3'⟩ := HNY.out
            have h4 := HMX.out
            rw [← kidsOf_length bb y.args, List.take_length] at h4
            have hinv : EInv wr U' (stx.map (·.1)) (w.heap.size + 1 + 1) t.erase := by
              rw [h4]
              exact HI3.out.frame HSX.out HUX.out
            refine ⟨stx, g', cap', _, rfl, rfl, by omega, HOX.out, HTX.out, hinv, fun hgU => ?_, HRX.out, HBB.out⟩
            obtain ⟨_, _, cur, hcur⟩ := hinv.lt g' hgU
            exact row_ne HOX.out hcur (by decide) rfl
          case measure =>
            have h2 := HLX.out
            rw [List.take_length] at h2
            rw [tload_snoc]
            obtain ⟨h3, h3'⟩ := HNY.out
            simp only
            omega
set_option maxRecDepth 100000 in
set_option maxHeartbeats 2000000 in
/-- THE PROGRAM's EraseType. -/
theorem eraseI_any {C : Nat → Prop} {t : Ty} {v : Value} {w : World} (h : TT w C t v) (hn : nodesS t.args ≤ 1048576) :
    Calls Try.prog 10 #[v] w (NewT t.erase w) := by
  obtain ⟨s, rfl, hS⟩ := h
  obtain ⟨p, c, rfl⟩ := hS.form
  obtain ⟨w0, hw0, hs0, hb0, r0, r1⟩ := box_new2 w #[.int .i64 t.kind, .slice p t.args.length c] #[.int .i64 0, .slice none 0 0] 26 26
  have HC := Lib.hid (growE_any (hS.keep hb0) (by have := t.nodes_eq; omega))
  have HW := Lib.hid (And.intro hs0 (And.intro hb0 r1))
  have HWW := Lib.hid hw0
  clear hS hs0 hb0 r0 r1 hw0
  go_enter Try.func10, Try.ntmps10
  go_wp2_with fail
  rw [HWW.out]
  refine HC.out.mono ?_
  rintro e w1 ⟨v1, rfl, ⟨s1, rfl, ho⟩, hb1⟩
  obtain ⟨p1, c1, rfl⟩ := ho.form
  obtain ⟨hs0, hb0, r1⟩ := HW.out
  have r1' := (hb1.block _ (by omega)).trans r1
  have q0 := cell_of_blk r1' 0
  have q1 := cell_of_blk r1' 1
  have qz := unfrozen_of_blk r1'
  simp only [List.getElem?_toArray, List.getElem?_cons_zero, List.getElem?_cons_succ] at q0 q1
  have HO := Lib.hid ho
  have HB := Lib.hid (hb0.trans (hb1.mono hb0.size))
  clear ho hb1 hs0 hb0 r1 r1'
  go_wp2_with fail
  refine bodyPost_ret (v := .agg #[.int .i64 t.erase.kind, .slice p1 t.erase.args.length c1]) ?_ rfl ?_
  · rw [results_cell1 rfl]
    go_simp
  · have hs0 := HW.out.1
    refine ⟨_, rfl, ⟨_, rfl, (HO.out.stays ((setCell_stays _ _ _ _ _ (by omega)).trans (setCell_stays _ _ _ _ _ (by omega)))).mono (fun z hz => ⟨by omega, by simpa [World.setCell] using hz.2⟩)⟩, set2_below HB.out (by omega)⟩
#print axioms eraseI_any
end Go.Proofs.Ytjobmgbchpoheaa

