/-
  The contract of the program's EraseType.
-/
import Derived.Test.YtnciibngcaajgaaErase
import Derived.Test.YtnciibngcaajgaaAid
import Derived.Test.YtnciibngcaajgaaTyCopy
import Derived.Lib.SmallJoins
namespace Go.Proofs.Ytnciibngcaajgaa
open Go Go.RowKit

/-- What waits, the next one last: a place with its slice's value. -/
abbrev Jobs := List (Job × Value)
def tcells (st : Jobs) : List Value := st.flatMap fun e => [.int .i64 e.1.x.kind, e.2, .pointer (some ⟨e.1.b, e.1.o, none⟩)]
theorem tcells_length (st : Jobs) : (tcells st).length = st.length * 3 := by
  induction st with
  | nil => rfl
  | cons e st ih => simp only [tcells, List.flatMap_cons, List.length_append, List.length_cons, List.length_nil] at *; omega
theorem tcells_snoc (st : Jobs) (e : Job × Value) : tcells (st ++ [e]) = tcells st ++ [.int .i64 e.1.x.kind, e.2, .pointer (some ⟨e.1.b, e.1.o, none⟩)] := by simp [tcells]
theorem tcells_take (st : Jobs) (e : Job × Value) : (tcells (st ++ [e])).take (st.length * 3) = tcells st := by
  rw [tcells_snoc, ← tcells_length, List.take_left]
theorem tcells_last (st : Jobs) (e : Job × Value) : (tcells (st ++ [e]))[st.length * 3]? = some (.int .i64 e.1.x.kind) ∧ (tcells (st ++ [e]))[st.length * 3 + 1]? = some e.2 ∧ (tcells (st ++ [e]))[st.length * 3 + 2]? = some (.pointer (some ⟨e.1.b, e.1.o, none⟩)) := by
  have h := tcells_length st
  rw [tcells_snoc]
  refine ⟨?_, ?_, ?_⟩ <;> (rw [List.getElem?_append_right (by omega), h]; simp)
def tload (st : Jobs) : Nat := (st.map fun e => e.1.x.nodes).sum
theorem tload_snoc (st : Jobs) (e : Job × Value) : tload (st ++ [e]) = tload st + e.1.x.nodes := by simp [tload]
theorem tload_ge (st : Jobs) : st.length ≤ tload st := by
  induction st with
  | nil => simp [tload]
  | cons e st ih =>
    have := e.1.x.nodes_eq
    simp only [tload, List.map_cons, List.sum_cons, List.length_cons] at *
    omega
theorem infoTk : (Try.prog.info? 70).map (fun i => (i.zero, i.size, i.bytes)) = some (some (.agg #[.int .i64 0, .slice none 0 0, .pointer none]), 3, 40) := by kernel_rfl

theorem OS.bound {w : World} {F : Nat → Prop} {ts : List Ty} {v : Value} (h : OS w ts v F) : OS w ts v (fun b => F b ∧ b < w.heap.size) := by
  induction h with
  | none F => exact .none _
  | row K S G hrow hm hF hk hr hG hd ih =>
    exact .row K S (fun j b => G j b ∧ b < w.heap.size) hrow hm ⟨hF, hrow.lt⟩ hk ih (fun j x hj hx => ⟨⟨(hG j x hj hx.1).1, hx.2⟩, (hG j x hj hx.1).2⟩) (fun i j x hi hj hij h1 h2 => hd i j x hi hj hij h1.1 h2.1)

theorem loop_world3 (w : World) (A B A' : Array Value) (tA tB tA' : TypeId) : ∃ wl : World, ((w.alloc (.cells A tA)).alloc (.cells B tB)).alloc (.cells A' tA') = wl ∧ wl.heap.size = w.heap.size + 1 + 1 + 1 ∧ Below w.heap.size w wl ∧
    wl.heap[w.heap.size]? = some (.cells A tA (0, 0)) ∧ wl.heap[w.heap.size + 1]? = some (.cells B tB (0, 0)) ∧ wl.heap[w.heap.size + 1 + 1]? = some (.cells A' tA' (0, 0)) := by
  have s1 : (w.alloc (.cells A tA)).heap.size = w.heap.size + 1 := by simp
  have s2 : ((w.alloc (.cells A tA)).alloc (.cells B tB)).heap.size = w.heap.size + 1 + 1 := by simp
  refine ⟨_, rfl, by simp, (((Below.refl _ w).alloc (Nat.le_refl _) _).alloc (by simp) _).alloc (by simp; omega) _, ?_, ?_, ?_⟩
  · rw [Below.heap_alloc _ _ _ (by simp; omega), Below.heap_alloc _ _ _ (by simp)]
    exact blk_new _ _
  · rw [Below.heap_alloc _ _ _ (by simp), ← s1]
    exact blk_new _ _
  · rw [← s2]
    exact blk_new _ _

theorem cell_setCell_ne {w : World} {b o c q : Nat} {v : Value} (h : ¬ (c = b ∧ q = o)) : (w.setCell ⟨b, o, none⟩ v).cell? ⟨c, q, none⟩ = w.cell? ⟨c, q, none⟩ := by
  by_cases hc : c = b
  · subst hc
    have hq : q ≠ o := fun e => h ⟨rfl, e⟩
    unfold World.cell?
    simp only [World.setCell, Array.getElem?_modify]
    cases hw : w.heap[c]? with
    | none => simp
    | some ob =>
      simp only [if_true, Option.map_some]
      cases ob <;> simp [Array.getElem?_setIfInBounds_ne (Ne.symm hq)]
  · exact World.cell?_of_block (Below.heap_setCell _ _ _ _ hc)

theorem row_ne {w : World} {base : Nat} {e e' : TypeId} {size n g cap b : Nat} {xs : List Value} {cs : Array Value} {fr : Nat × Nat} (h : w.ownsRow base e size (.slice (some ⟨g, 0, none⟩) n cap) n xs) (hb : w.heap[b]? = some (.cells cs e' fr)) (hne : e' ≠ e) : g ≠ b := by
  rintro rfl
  rcases h.2 with h0 | ⟨g', cap', cur, hv, hg, hblk, _⟩
  · exact absurd h0.1 (by simp)
  · simp only [Value.slice.injEq, Option.some.injEq, Addr.mk.injEq, true_and, and_true] at hv
    obtain ⟨rfl, rfl⟩ := hv
    rw [hb] at hblk
    simp only [Option.some.injEq, Obj.cells.injEq] at hblk
    exact hne hblk.2.1

structure ES (w wr : World) (t : Ty) (st : Jobs) (g cap : Nat) (U : Nat → Prop) : Prop where
  own : wr.ownsRow w.heap.size 70 3 (.slice (some ⟨g, 0, none⟩) st.length cap) st.length (tcells st)
  ts : ∀ e ∈ st, TS w (· < w.heap.size) e.1.x.args e.2
  inv : EInv wr U (st.map (·.1)) (w.heap.size + 1 + 1) t.erase
  gU : ¬ U g
  res : wr.heap[w.heap.size + 1]? = some (.cells #[.int .i64 0, .slice none 0 0] 26 (0, 0))
  below : Below w.heap.size w wr

set_option maxRecDepth 100000 in
set_option maxHeartbeats 2000000 in
theorem eraseI_any {C : Nat → Prop} {t : Ty} {v : Value} {w : World} (h : TT w C t v) (hn : nodesS t.args ≤ 1048576) :
    Calls Try.prog 21 #[v] w (NewT t.erase w) := by
  obtain ⟨i0, hi, hz0, hz1, hz2⟩ := info_parts infoTk
  obtain ⟨j0, hj, hy0, hy1, hy2⟩ := info_parts infoTy
  obtain ⟨s, rfl, hS⟩ := h
  obtain ⟨p, c, rfl⟩ := hS.form
  have HS := Lib.hid (hS.mono (C' := (· < w.heap.size)) (fun b _ h => h))
  clear hS
  have hnn := t.nodes_eq
  go_enter Try.func21, Try.ntmps21
  go_wp2_with fail
  go_loopg [4] t.nodes (fun gk v wr => ∃ (st : Jobs) (g cap : Nat) (U : Nat → Prop), v = .slice (some ⟨g, 0, none⟩) st.length cap ∧ gk = tload st ∧ tload st ≤ t.nodes ∧ ES w wr t st g cap U)
  case atStart =>
    obtain ⟨wl, hwl, hsz, hbl, q0, q1, q2⟩ := loop_world3 w #[.int .i64 t.kind, .slice p t.args.length c] #[.int .i64 0, .slice none 0 0] #[.int .i64 0, .slice none 0 0] 26 26 26
    rw [hwl]
    have hb4 := (Below.refl wl.heap.size wl).alloc (Nat.le_refl _) (.cells #[.int .i64 t.kind, .slice p t.args.length c, .pointer (some ⟨w.heap.size + 1 + 1, 0, none⟩)] 70)
    refine ⟨[(⟨t, w.heap.size + 1 + 1, 0⟩, .slice p t.args.length c)], w.heap.size + 1 + 1 + 1, 1, fun b => b = w.heap.size + 1 + 1, rfl, by simp [tload], by simp [tload], ?_, ?_, ?_, by omega, ?_, ?_⟩
    · have h1 := World.ownsRow_lit (base := w.heap.size) (e := 70) (size := 3) wl #[.int .i64 t.kind, .slice p t.args.length c, .pointer (some ⟨w.heap.size + 1 + 1, 0, none⟩)] 1 (by omega) (by unfold maxLen; omega) rfl
      rw [hsz] at h1
      exact h1
    · intro e he
      simp only [List.mem_singleton] at he
      subst he
      exact HS.out
    · exact (EInv.start q2).frame hb4.size (fun c hc => hb4.block c (by omega))
    · exact (hb4.block _ (by omega)).trans q1
    · exact hbl.trans (hb4.mono hbl.size)
  case round =>
    obtain ⟨st, g, cap, U, rfl, rfl, hle, hM⟩ := hrel
    rename World => wo
    rcases snoc_cases st with rfl | ⟨st0, e, rfl⟩
    · have HM := Lib.hid hM
      obtain ⟨sr, r0, r1, ro⟩ := hM.inv.done
      obtain ⟨pr, cr, rfl⟩ := ro.form
      have q0 := cell_of_blk hM.res 0
      have q1 := cell_of_blk hM.res 1
      have qz := unfrozen_of_blk hM.res
      simp only [List.getElem?_toArray, List.getElem?_cons_zero, List.getElem?_cons_succ] at q0 q1
      have HRO := Lib.hid ro
      clear hM ro
      go_wp2_with fail
      refine bodyPost_ret (v := .agg #[.int .i64 t.erase.kind, .slice pr t.erase.args.length cr]) ?_ rfl ?_
      · rw [results_cell1 rfl]
        go_simp
      · have hst : ∀ F : Nat → Prop, ¬ F (w.heap.size + 1) → Stays F wo ((wo.setCell ⟨w.heap.size + 1, 0, none⟩ (.int .i64 t.erase.kind)).setCell ⟨w.heap.size + 1, 1, none⟩ (.slice pr t.erase.args.length cr)) := fun F hF => (setCell_stays _ _ _ _ F hF).trans (setCell_stays _ _ _ _ F hF)
        refine ⟨_, rfl, ⟨_, rfl, ((HRO.out.stays (hst _ (by omega))).bound).mono (fun b hb => ⟨by omega, hb.2⟩)⟩, (HM.out.below.setCell (p := ⟨w.heap.size + 1, 0, none⟩) (by show w.heap.size ≤ w.heap.size + 1; omega) _).setCell (p := ⟨w.heap.size + 1, 1, none⟩) (by show w.heap.size ≤ w.heap.size + 1; omega) _⟩
    · obtain ⟨⟨x, b, o⟩, s⟩ := e
      have hT := hM.ts (⟨x, b, o⟩, s) (by simp)
      simp only at hT
      obtain ⟨p1, c1, rfl⟩ := hT.form
      have hlx := hT.len
      have hlen : (st0 ++ [((⟨x, b, o⟩, Value.slice p1 x.args.length c1) : Job × Value)]).length = st0.length + 1 := by simp
      have hown := hM.own
      rw [hlen] at hown
      rw [hlen]
      obtain ⟨hcap1, hcap2, hg1, hg2⟩ := row_cap hown
      have k0 := (hown.cellAt (st0.length * 3) (by omega)).trans (tcells_last st0 _).1
      have k1 := (hown.cellAt (st0.length * 3 + 1) (by omega)).trans (tcells_last st0 _).2.1
      have k2 := (hown.cellAt (st0.length * 3 + 2) (by omega)).trans (tcells_last st0 _).2.2
      simp only at k0 k1 k2
      unfold maxLen at hcap2
      have HM := Lib.hid hM
      have HT := Lib.hid hT
      have HOWN := Lib.hid hown
      have HLE := Lib.hid hle
      clear hM hT hown hle
      have i0' : (0 : Int) ≤ (st0.length : Int) := Int.natCast_nonneg _
      have i1' : (st0.length : Int) < ((st0.length : Int) + 1) := by omega
      go_wp2_with fail
      go_cut [5, 6] from 12 to 75 (fun b5 b6 wx => b5 = .pointer (some ⟨wo.heap.size, 0, none⟩) ∧ b6 = .pointer (some ⟨b, o, none⟩) ∧ wx.heap[wo.heap.size]? = some (.cells #[.int .i64 x.kind, .slice p1 x.args.length c1] 26 (0, 0)) ∧ Below wo.heap.size wo wx)
      case first =>
        have a3 := wrap_in st0.length (by omega)
        have a4 := wrap64_nat st0.length (by omega)
        go_region_held3 (fun w' => w'.cell? ⟨g, st0.length * 3, none⟩ = some (.int .i64 x.kind) ∧ w'.cell? ⟨g, st0.length * 3 + 1, none⟩ = some (.slice p1 x.args.length c1) ∧ w'.cell? ⟨g, st0.length * 3 + 2, none⟩ = some (.pointer (some ⟨b, o, none⟩)))
          (first
            | (go_keep; done)
            | exact ⟨by simp [*], by simp [*], by simp [*]⟩)
          (fail)
        all_goals
          go_wp2_with fail
          go_meet
          case rel => exact ⟨rfl, rfl, blk_new wo _, ((Below.refl _ wo).alloc (Nat.le_refl _) _).drew⟩
      case rest =>
        obtain ⟨rfl, rfl, hbf, hbw⟩ := hcut
        have hown1 : wc.ownsRow w.heap.size 70 3 (.slice (some ⟨g, 0, none⟩) st0.length cap) st0.length (tcells st0) := by
          have h2 := row_take (row_of_block HOWN.out (hbw.block g hg2)) (Nat.le_succ _)
          rw [tcells_take] at h2
          exact h2
        have HOW := Lib.hid hown1
        have HBF := Lib.hid hbf
        have HBW := Lib.hid hbw
        clear hbf hbw hown1 k0 k1 k2
        go_wp2_with fail
        go_loopg [] x.nodes (fun gk wr => ∃ (y : Ty) (py : Option Addr) (cy : Nat), gk = y.nodes ∧ y.nodes ≤ x.nodes ∧ y.erase = x.erase ∧ TS w (· < w.heap.size) y.args (.slice py y.args.length cy) ∧ wr.heap[wo.heap.size]? = some (.cells #[.int .i64 y.kind, .slice py y.args.length cy] 26 (0, 0)) ∧ Below wo.heap.size wo wr)
        case atStart => exact ⟨x, p1, c1, rfl, Nat.le_refl _, rfl, HT.out, HBF.out, HBW.out⟩
        case round =>
          obtain ⟨y, py, cy, rfl, hyx, hye, hty, hby, hbw⟩ := hrel
          have y0 := cell_of_blk hby 0
          have y1 := cell_of_blk hby 1
          have yz := unfrozen_of_blk hby
          simp only [List.getElem?_toArray, List.getElem?_cons_zero, List.getElem?_cons_succ] at y0 y1
          have hly := hty.len
          have hb1 : Below w.heap.size w wr := HM.out.below.trans (hbw.mono HM.out.below.size)
          have HC := Lib.hid (isCode_any (C := (· < w.heap.size)) (t := y) (w := wr) ⟨_, rfl, hty.keep hb1⟩)
          have HBY := Lib.hid hby
          have HBW2 := Lib.hid hbw
          have HTY := Lib.hid hty
          have HYE := Lib.hid hye
          have HB1 := Lib.hid hb1
          clear hby hbw hty hye hb1
          go_wp2_with fail
          refine HC.out.mono ?_
          rintro e w1 ⟨r, hr, rfl, hb2⟩
          have HBY2 := Lib.hid ((hb2.block _ (Array.getElem?_eq_some_iff.1 HBY.out).1).trans HBY.out)
          have HBW3 := Lib.hid (HBW2.out.trans (hb2.mono HBW2.out.size))
          have HB2 := Lib.hid (HB1.out.trans (hb2.mono HB1.out.size))
          have HR := Lib.hid hr
          clear y0 y1 yz hr hb2
          have y0 := cell_of_blk HBY2.out 0
          have y1 := cell_of_blk HBY2.out 1
          have yz := unfrozen_of_blk HBY2.out
          simp only [List.getElem?_toArray, List.getElem?_cons_zero, List.getElem?_cons_succ] at y0 y1
          cases r with
          | true =>
            obtain ⟨z, hz1, hz2⟩ := erase_code HR.out.symm
            obtain ⟨b2, o2, p', c', rfl, hcs, hTz⟩ := HTY.out.at 0 z (by rw [hz1]; rfl)
            obtain ⟨f1, f2⟩ := hcs w1 (Stays.of_below HB2.out)
            have hl1 : y.args.length = 1 := by rw [hz1]; rfl
            have HZ1 := Lib.hid hz1
            have HZ2 := Lib.hid hz2
            have HTZ := Lib.hid hTz
            have hblk : ((w1.setCell ⟨wo.heap.size, 0, none⟩ (.int .i64 z.kind)).setCell ⟨wo.heap.size, 1, none⟩ (.slice p' z.args.length c')).heap[wo.heap.size]? = some (.cells #[.int .i64 z.kind, .slice p' z.args.length c'] 26 (0, 0)) := by
              rw [Go.Joins.block_setCell (Go.Joins.block_setCell HBY2.out _)]
              rfl
            have HBLK := Lib.hid hblk
            simp only [Nat.zero_mul, Nat.add_zero] at f1 f2
            clear hz1 hz2 hcs hTz hblk
            go_wp2_with fail
            go_roundg z.nodes
            case rel => 
              have h1 := nodesS_at y.args 0 (by omega)
              have h2 := y.nodes_eq
              have h3 := z.nodes_eq
              have h4 : y.args[0]'(by omega) = z := by simp [HZ1.out]
              rw [h4] at h1
              exact ⟨z, p', c', rfl, by omega, HZ2.out.symm.trans HYE.out, HTZ.out, HBLK.out, (HBW3.out.setCell (p := ⟨wo.heap.size, 0, none⟩) (Nat.le_refl _) _).setCell (p := ⟨wo.heap.size, 1, none⟩) (Nat.le_refl _) _⟩
            case measure =>
              have h1 := nodesS_at y.args 0 (by omega)
              have h2 := y.nodes_eq
              have h3 := z.nodes_eq
              have h4 : y.args[0]'(by omega) = z := by simp [HZ1.out]
              rw [h4] at h1
              omega
          | false =>
            have hnode := erase_node HR.out.symm
            have hlt1 : ∀ k, k < wo.heap.size → w1.heap[k]? = wo.heap[k]? := HBW3.out.block
            have hmap : (st0 ++ [((⟨x, b, o⟩, Value.slice p1 x.args.length c1) : Job × Value)]).map (·.1) = st0.map (·.1) ++ [⟨x, b, o⟩] := by simp
            have inv1 : EInv w1 U (st0.map (·.1) ++ [⟨x, b, o⟩]) (w.heap.size + 1 + 1) t.erase := hmap ▸ (HM.out.inv.frame HBW3.out.size (fun k hk => hlt1 k (HM.out.inv.lt k hk).2.1))
            obtain ⟨hUb, ⟨q0, l0⟩, l1, hpar⟩ := inv1.loc ⟨x, b, o⟩ (by simp)
            simp only at hUb l0 l1 hpar
            obtain ⟨hRb, hbw1, cur1, hcur1⟩ := inv1.lt b hUb
            have hbo : b < wo.heap.size := (HM.out.inv.lt b hUb).2.1
            have lz := unfrozen_of_blk hcur1
            have hgb : g ≠ b := fun e => HM.out.gU (e ▸ hUb)
            have hnb : ¬ (wo.heap.size = b) := by omega
            let wn := w1.setCell ⟨b, o, none⟩ (.int .i64 y.kind)
            have hwn : wn.heap.size = w1.heap.size := by simp [wn, World.setCell]
            have hwk : ∀ k, k ≠ b → wn.heap[k]? = w1.heap[k]? := fun k hk => Below.heap_setCell _ _ _ _ hk
            have hblkn : wn.heap[b]? = some (.cells (cur1.setIfInBounds o (.int .i64 y.kind)) 26 (0, 0)) := Go.Joins.block_setCell hcur1 _
            have hbxn : wn.heap[wo.heap.size]? = some (.cells #[.int .i64 y.kind, .slice py y.args.length cy] 26 (0, 0)) := (hwk _ hnb).trans HBY2.out
            have hBn : Below w.heap.size w wn := HB2.out.setCell (p := ⟨b, o, none⟩) (by show w.heap.size ≤ b; omega) _
            have hng : wn.heap[g]? = wo.heap[g]? := (hwk g hgb).trans (hlt1 g hg2)
            have hownn : wn.ownsRow w.heap.size 70 3 (.slice (some ⟨g, 0, none⟩) st0.length cap) st0.length (tcells st0) := by
              have h2 := row_take (row_of_block HOWN.out hng) (Nat.le_succ _)
              rw [tcells_take] at h2
              exact h2
            have hresn : wn.heap[w.heap.size + 1]? = some (.cells #[.int .i64 0, .slice none 0 0] 26 (0, 0)) := ((hwk _ (by omega)).trans (hlt1 _ (by have := (Array.getElem?_eq_some_iff.1 HM.out.res).1; exact this))).trans HM.out.res
            have hk0 : wn.cell? ⟨b, o, none⟩ = some (.int .i64 y.kind) := World.cell?_setCell_same' _ _ _ (by rw [l0]; rfl)
            have hk1 : wn.cell? ⟨b, o + 1, none⟩ = some (.slice none 0 0) := (cell_setCell_ne (by omega)).trans l1
            have hcelln : ∀ c q, ¬ (c = b ∧ q = o) → wn.cell? ⟨c, q, none⟩ = w1.cell? ⟨c, q, none⟩ := fun c q hc => cell_setCell_ne hc
            have n0 := cell_of_blk hbxn 0
            have n1 := cell_of_blk hbxn 1
            have nz := unfrozen_of_blk hblkn
            simp only [List.getElem?_toArray, List.getElem?_cons_zero, List.getElem?_cons_succ] at n0 n1
            have HIN := Lib.hid inv1
            have HND := Lib.hid hnode
            have HWK := Lib.hid hwk
            have HCUR := Lib.hid hcur1
            have HBLN := Lib.hid hblkn
            have HBXN := Lib.hid hbxn
            have HBN := Lib.hid hBn
            have HOWNN := Lib.hid hownn
            have HRESN := Lib.hid hresn
            have HCELL := Lib.hid hcelln
            have HK0 := Lib.hid hk0
            have HK1 := Lib.hid hk1
            have HUB := Lib.hid hUb
            have HRB := Lib.hid hRb
            have HLT1 := Lib.hid hlt1
            clear inv1 hnode hwk hcur1 hblkn hbxn hBn hownn hresn hcelln hUb hRb hng hmap hlt1 hk0
            by_cases hl0 : y.args.length = 0
            · have hnil : y.args = [] := List.eq_nil_of_length_eq_zero hl0
              have HNIL := Lib.hid hnil
              clear hnil
              go_wp2_with fail
              go_loopw [4, 59] (fun v i wr => v = .slice (some ⟨g, 0, none⟩) st0.length cap ∧ i = .int .i64 0 ∧ wr = w1.setCell ⟨b, o, none⟩ (.int .i64 y.kind)) (fun _ _ _ => 0)
              case atStart => exact ⟨rfl, rfl, rfl⟩
              case round =>
                obtain ⟨rfl, rfl, rfl⟩ := hrel
                go_wp2_with fail
                go_roundg (tload st0)
                case rel =>
                  have h1 := HLE.out
                  rw [tload_snoc] at h1
                  refine ⟨st0, g, cap, U, rfl, rfl, by omega, HOWNN.out, fun e he => HM.out.ts e (List.mem_append_left _ he), ?_, HM.out.gU, HRESN.out, HBN.out⟩
                  refine HIN.out.leaf (y := y) (by rw [← HYE.out, HND.out, HNIL.out]; rfl) (by simp [World.setCell]) (fun c hc q hq => HCELL.out c q (fun h => hq ⟨h.1, Or.inl h.2⟩)) (fun c hc cur hcur => ?_) (World.cell?_setCell_same' _ _ _ (by rw [l0]; rfl)) HK1.out
                  by_cases hcb : c = b
                  · subst hcb
                    rw [HCUR.out] at hcur
                    simp only [Option.some.injEq, Obj.cells.injEq, and_true] at hcur
                    subst hcur
                    exact ⟨_, HBLN.out, by simp⟩
                  · exact ⟨cur, (HWK.out c hcb).trans hcur, rfl⟩
                case measure =>
                  rw [tload_snoc]
                  have := x.nodes_eq
                  simp only
                  omega
            · have hly1 : y.args.length ≤ 1048576 := by have := nodesS_ge y.args; have := y.nodes_eq; have h1 := HLE.out; rw [tload_snoc] at h1; simp only at h1; omega
              go_wp2_with (at_make; refine wpList_make_full _ rfl _ _ 24 rfl w.heap.size 26 j0 (.agg #[.int .i64 0, .slice none 0 0]) 2 Try.underlying24 hj hy0 hy1 .i64 .i64 _ _ y.args.length rfl rfl rfl rfl ?c1 ?c2 ?c3 ?_)
              case c1 => rw [hy2]; omega
              case c2 => unfold maxLen; omega
              case c3 => have := HB2.out.size; simp [World.setCell]; omega
              intro w2 hown0 hg
              have hrow := (Row.of_owns (K := fun _ => 0) (S := fun _ => .slice none 0 0) hown0 (fun j hj => zeros_at _ j hj)).1
              have hg2' : Below wn.heap.size wn w2 := (Below.refl _ _).grown hg (Nat.le_refl _) (fun k h => by cases h)
              have hcur2 : w2.heap[b]? = some (.cells (cur1.setIfInBounds o (.int .i64 y.kind)) 26 (0, 0)) := (hg2'.block b (by omega)).trans HBLN.out
              have m1 := (hg2'.cell (p := ⟨b, o + 1, none⟩) (by show b < wn.heap.size; omega)).trans HK1.out
              have mz := unfrozen_of_blk hcur2
              have hb3 : w2.heap[wo.heap.size]? = some (.cells #[.int .i64 y.kind, .slice py y.args.length cy] 26 (0, 0)) := (hg2'.block _ (Array.getElem?_eq_some_iff.1 HBXN.out).1).trans HBXN.out
              have b1' := (cell_setCell_ne (w := w2) (b := b) (o := o + 1) (v := .slice (some ⟨w1.heap.size, 0, none⟩) y.args.length y.args.length) (c := wo.heap.size) (q := 1) (by omega)).trans (cell_of_blk hb3 1)
              simp only [List.getElem?_toArray, List.getElem?_cons_zero, List.getElem?_cons_succ] at b1'
              have HROW := Lib.hid hrow
              have HG2 := Lib.hid hg2'
              have HCUR2 := Lib.hid hcur2
              have HB3 := Lib.hid hb3
              clear hown0 hg hrow hg2' hcur2 hb3 n0 n1 nz
              let wm := w2.setCell ⟨b, o + 1, none⟩ (.slice (some ⟨w1.heap.size, 0, none⟩) y.args.length y.args.length)
              have hwm : wm.heap.size = w2.heap.size := by simp [wm, World.setCell]
              have hw2s : w1.heap.size + 1 ≤ w2.heap.size := HROW.out.lt
              have hwmk : ∀ k, k ≠ b → wm.heap[k]? = w2.heap[k]? := fun k hk => Below.heap_setCell _ _ _ _ hk
              have hU2 : ∀ c, U c → c < w1.heap.size := fun c hc => (HIN.out.lt c hc).2.1
              have hblkm : wm.heap[b]? = some (.cells ((cur1.setIfInBounds o (.int .i64 y.kind)).setIfInBounds (o + 1) (.slice (some ⟨w1.heap.size, 0, none⟩) y.args.length y.args.length)) 26 (0, 0)) := Go.Joins.block_setCell HCUR2.out _
              have einv : EInv wm (fun c => U c ∨ c = w1.heap.size) (st0.map (·.1) ++ kidsOf w1.heap.size y.args) (w.heap.size + 1 + 1) t.erase := by
                refine HIN.out.node (y := y) (by rw [← HYE.out, HND.out]) (by omega) (fun c hc q hq => ?_) (fun c hc cur hcur => ?_) ?_ (Nat.le_refl _) (HROW.out.of_block (hwmk _ (by omega))) (by unfold maxLen; omega) ?_
                · refine (cell_setCell_ne (fun h => hq ⟨h.1, Or.inr h.2⟩)).trans ?_
                  refine (HG2.out.cell (p := ⟨c, q, none⟩) (by show c < wn.heap.size; have := hU2 c hc; omega)).trans ?_
                  exact HCELL.out c q (fun h => hq ⟨h.1, Or.inl h.2⟩)
                · by_cases hcb : c = b
                  · subst hcb
                    rw [HCUR.out] at hcur
                    simp only [Option.some.injEq, Obj.cells.injEq, and_true] at hcur
                    subst hcur
                    exact ⟨_, hblkm, by simp⟩
                  · exact ⟨cur, (hwmk c hcb).trans ((HG2.out.block c (by have := hU2 c hc; omega)).trans ((HWK.out c hcb).trans hcur)), rfl⟩
                · refine (cell_setCell_ne (by omega)).trans ?_
                  refine (HG2.out.cell (p := ⟨b, o, none⟩) (by show b < wn.heap.size; omega)).trans ?_
                  exact World.cell?_setCell_same' _ _ _ (by rw [l0]; rfl)
                · exact World.cell?_setCell_same' _ _ _ (by rw [m1]; rfl)
              have hwo1 := HBW3.out.size
              have hgm : wm.heap[g]? = wn.heap[g]? := (hwmk g hgb).trans (HG2.out.block g (by omega))
              have hownm : wm.ownsRow w.heap.size 70 3 (.slice (some ⟨g, 0, none⟩) st0.length cap) st0.length (tcells st0) := row_of_block HOWNN.out hgm
              have hresm : wm.heap[w.heap.size + 1]? = some (.cells #[.int .i64 0, .slice none 0 0] 26 (0, 0)) := (hwmk _ (by have := HRB.out; omega)).trans ((HG2.out.block _ (Array.getElem?_eq_some_iff.1 HRESN.out).1).trans HRESN.out)
              have hboxm : wm.heap[wo.heap.size]? = some (.cells #[.int .i64 y.kind, .slice py y.args.length cy] 26 (0, 0)) := (hwmk _ hnb).trans HB3.out
              have hBm : Below w.heap.size w wm := (HBN.out.trans (HG2.out.mono HBN.out.size)).setCell (p := ⟨b, o + 1, none⟩) (by show w.heap.size ≤ b; have := HRB.out; omega) _
              have HSET := Lib.hid (World.cell?_setCell_same' w2 ⟨b, o + 1, none⟩ (.slice (some ⟨w1.heap.size, 0, none⟩) y.args.length y.args.length) (by rw [m1]; rfl))
              have EI := Lib.hid einv
              have HOWM := Lib.hid hownm
              have HRESM := Lib.hid hresm
              have HBOXM := Lib.hid hboxm
              have HBM := Lib.hid hBm
              have HBLKM := Lib.hid hblkm
              have HU2 := Lib.hid hU2
              clear einv hownm hresm hboxm hBm hgm hwmk hblkm hU2
              go_wp2_with fail
              go_loopw [4, 59] (fun v i wr => ∃ (k : Nat) (stx : Jobs) (g' cap' : Nat), v = .slice (some ⟨g', 0, none⟩) stx.length cap' ∧ i = .int .i64 k ∧ k ≤ y.args.length ∧ wr.ownsRow w.heap.size 70 3 (.slice (some ⟨g', 0, none⟩) stx.length cap') stx.length (tcells stx) ∧
                (∀ e ∈ stx, TS w (· < w.heap.size) e.1.x.args e.2) ∧ stx.map (·.1) = st0.map (·.1) ++ (kidsOf w1.heap.size y.args).take k ∧ tload stx = tload st0 + nodesS (y.args.take k) ∧ (∀ c, U c ∨ c = w1.heap.size → wr.heap[c]? = (w2.setCell ⟨b, o + 1, none⟩ (.slice (some ⟨w1.heap.size, 0, none⟩) y.args.length y.args.length)).heap[c]?) ∧
                wr.heap[w.heap.size + 1]? = some (.cells #[.int .i64 0, .slice none 0 0] 26 (0, 0)) ∧ wr.heap[wo.heap.size]? = some (.cells #[.int .i64 y.kind, .slice py y.args.length cy] 26 (0, 0)) ∧ Below w.heap.size w wr ∧ w2.heap.size ≤ wr.heap.size) (fun _ i _ => y.args.length - (intOf i).toNat)
              case atStart => exact ⟨0, st0, g, cap, rfl, rfl, Nat.zero_le _, HOWM.out, fun e he => HM.out.ts e (List.mem_append_left _ he), by simp, by simp [nodesS], fun _ _ => rfl, HRESM.out, HBOXM.out, HBM.out, by show w2.heap.size ≤ wm.heap.size; omega⟩
              case round =>
                obtain ⟨k, stx, g', cap', rfl, rfl, hk, hox, htx, hmx, hlx2, hux, hrx, hbx, hBx, hsx⟩ := hrel
                have HOX := Lib.hid hox
                have HTX := Lib.hid htx
                have HMX := Lib.hid hmx
                have HLX := Lib.hid hlx2
                have HUX := Lib.hid hux
                have HRX := Lib.hid hrx
                have HBX := Lib.hid hbx
                have HBB := Lib.hid hBx
                clear hox htx hmx hlx2 hux hrx hbx hBx b1' m1 mz y0 y1 yz l0 l1 lz
                by_cases hlk : k < y.args.length
                · have e1 := List.getElem?_eq_getElem hlk
                  obtain ⟨b3, o3, p', c', rfl, hcs, hTk⟩ := HTY.out.at k _ e1
                  obtain ⟨f1, f2⟩ := hcs wr (.of_below HBB.out)
                  have t2 : wr.cell? ⟨b, o + 1, none⟩ = some (.slice (some ⟨w1.heap.size, 0, none⟩) y.args.length y.args.length) :=
                    (World.cell?_of_block (w := w2.setCell ⟨b, o + 1, none⟩ (.slice (some ⟨w1.heap.size, 0, none⟩) y.args.length y.args.length)) (a := ⟨b, o + 1, none⟩) (HUX.out b (Or.inl HUB.out))).trans HSET.out
                  have hbnd : stx.length ≤ 1048577 := by
                    have h1 := tload_ge stx
                    have h2 := HLX.out
                    have h3 := nodesS_take_le y.args k
                    have h4 := HLE.out
                    rw [tload_snoc] at h4
                    simp only at h4
                    have h5 := y.nodes_eq
                    omega
                  have hb6 := (Below.refl wr.heap.size wr).alloc (Nat.le_refl _) (.cells #[.int .i64 y.args[k].kind, .slice p' y.args[k].args.length c'] 26)
                  have t3 := (hb6.cell (p := ⟨b, o + 1, none⟩) (World.block_lt_of_cell? wr _ t2)).trans t2
                  have x6 := cell_of_blk (blk_new wr (.cells #[.int .i64 y.args[k].kind, .slice p' y.args[k].args.length c'] 26)) 0
                  have x7 := cell_of_blk (blk_new wr (.cells #[.int .i64 y.args[k].kind, .slice p' y.args[k].args.length c'] 26)) 1
                  simp only [List.getElem?_toArray, List.getElem?_cons_zero, List.getElem?_cons_succ] at x6 x7
                  have hsz6 : w.heap.size ≤ wr.heap.size := HBB.out.size
                  have HO0 := Lib.hid (show ((wr.alloc (.cells #[.int .i64 y.args[k].kind, .slice p' y.args[k].args.length c'] 26)).drew).ownsRow w.heap.size 70 3 (.slice (some ⟨g', 0, none⟩) stx.length cap') stx.length (tcells stx) from row_below HOX.out hb6.drew)
                  have hgb' : g' ≠ b := row_ne HOX.out ((HUX.out b (Or.inl HUB.out)).trans HBLKM.out) (by decide)
                  have hgx' : g' ≠ wr.heap.size := by have := (row_cap HOX.out).2.2.2; omega
                  have HKA := Lib.hid (fun (w' : World) (g2 cap2 : Nat) (hA : Appd (wr.alloc (.cells #[.int .i64 y.args[k].kind, .slice p' y.args[k].args.length c'] 26)).drew w' w.heap.size 70 3 (.slice (some ⟨g', 0, none⟩) stx.length cap') stx.length (tcells stx) [.int .i64 y.args[k].kind, .slice p' y.args[k].args.length c', .pointer (some ⟨w1.heap.size, k * 2, none⟩)] g2 cap2) =>
                    (⟨keepApp hA x6 (fun e => by simp [Value.ownBlock] at e; omega), keepApp hA x7 (fun e => by simp [Value.ownBlock] at e; omega), keepApp hA t3 (fun e => by simp [Value.ownBlock] at e; omega)⟩ :
                      w'.cell? ⟨wr.heap.size, 0, none⟩ = some (.int .i64 y.args[k].kind) ∧ w'.cell? ⟨wr.heap.size, 1, none⟩ = some (.slice p' y.args[k].args.length c') ∧ w'.cell? ⟨b, o + 1, none⟩ = some (.slice (some ⟨w1.heap.size, 0, none⟩) y.args.length y.args.length)))
                  have HTK := Lib.hid hTk
                  have HB6 := Lib.hid hb6
                  have HT3 := Lib.hid t3
                  have HX6 := Lib.hid x6
                  have HX7 := Lib.hid x7
                  have ii0 : (0 : Int) ≤ (k : Int) := Int.natCast_nonneg _
                  have ii1 : (k : Int) < (y.args.length : Int) := by omega
                  clear hcs hTk e1 hb6 t2 t3 x6 x7
                  go_wp2_with fail
                  have t3 := HT3.out
                  have x6 := HX6.out
                  have x7 := HX7.out
                  go_region_held3 (fun w' => w'.cell? ⟨wr.heap.size, 0, none⟩ = some (.int .i64 y.args[k].kind) ∧ w'.cell? ⟨wr.heap.size, 1, none⟩ = some (.slice p' y.args[k].args.length c') ∧ w'.cell? ⟨b, o + 1, none⟩ = some (.slice (some ⟨w1.heap.size, 0, none⟩) y.args.length y.args.length))
                    (first
                      | exact HKA.out _ _ _ hA
                      | (go_keep; done)
                      | exact ⟨by simp [*], by simp [*], by simp [*]⟩)
                    (first
                      | (refine step_app1 (w0 := (wr.alloc (.cells #[.int .i64 y.args[k].kind, .slice p' y.args[k].args.length c'] 26)).drew) (v := .slice (some ⟨g', 0, none⟩) stx.length cap') (n := stx.length) (xs := tcells stx) rfl (.tmp 64) (.tmp 73) rfl Try.underlying71 hi hz0 hz1 hz2 rfl (by decide) rfl HO0.out _ rfl (by simp) rfl (fun u hu => by simp at hu; rcases hu with rfl | rfl | rfl <;> rfl) (by unfold maxLen; omega) (by omega) (by simp; omega) ?_; intro w' g2 cap2 hA))
                  rename_i hH
                  have HA := Lib.hid hA
                  clear hH hA t3 x6 x7 f1 f2
                  go_wp2_with fail
                  go_roundw
                  case rel =>
                    have keepB : ∀ (cc : Nat) (cs : Array Value), wr.heap[cc]? = some (.cells cs 26 (0, 0)) → w'.heap[cc]? = wr.heap[cc]? := fun cc cs hcc => by
                      have hlt := (Array.getElem?_eq_some_iff.1 hcc).1
                      have h1 := (HA.out.kept cc (by show cc < (wr.alloc _).heap.size; simp; omega) (fun e => row_ne HOX.out hcc (by decide) (by simpa [Value.ownBlock] using e))).1
                      exact h1.trans (HB6.out.block cc hlt)
                    have hinv : EInv wr (fun c => U c ∨ c = w1.heap.size) _ (w.heap.size + 1 + 1) t.erase := EI.out.frame (by omega) HUX.out
                    have hown' := HA.out.own
                    have hszA := HA.out.size
                    refine ⟨k + 1, stx ++ [(⟨y.args[k], w1.heap.size, k * 2⟩, .slice p' y.args[k].args.length c')], g2, cap2, by rw [List.length_append]; rfl, by go_num, by omega, ?_, ?_, ?_, ?_, fun cc hcc => ?_, (keepB _ _ HRX.out).trans HRX.out, (keepB _ _ HBX.out).trans HBX.out, HBB.out.trans ((HB6.out.mono hsz6).drew.trans HA.out.below), ?_⟩
                    · rw [List.length_append, tcells_snoc]
                      exact hown'
                    · intro e he
                      rcases List.mem_append.1 he with he | he
                      · exact HTX.out e he
                      · simp only [List.mem_singleton] at he
                        subst he
                        exact HTK.out
                    · rw [List.map_append, HMX.out, List.take_add_one, kidsOf_get (List.getElem?_eq_getElem hlk), List.append_assoc]
                      rfl
                    · rw [tload_snoc, HLX.out, nodesS_take_next _ _ hlk, Nat.add_assoc]
                    · obtain ⟨_, _, cur, hcur⟩ := hinv.lt cc hcc
                      exact (keepB cc cur hcur).trans (HUX.out cc hcc)
                    · have h1 : wr.heap.size + 1 ≤ (wr.alloc (.cells #[.int .i64 y.args[k].kind, .slice p' y.args[k].args.length c'] 26)).drew.heap.size := by show wr.heap.size + 1 ≤ (wr.alloc _).heap.size; simp
                      omega
                  case measure => simp [intOf]; omega
                · obtain rfl : k = y.args.length := by omega
                  go_wp2_with fail
                  go_roundg (tload stx)
                  case rel =>
                    have h1 := HLE.out
                    rw [tload_snoc] at h1
                    simp only at h1
                    have h2 := HLX.out
                    rw [List.take_length] at h2
                    have h3 := y.nodes_eq
                    have h4 := HMX.out
                    rw [← kidsOf_length w1.heap.size y.args, List.take_length] at h4
                    have hinv : EInv wr (fun c => U c ∨ c = w1.heap.size) (stx.map (·.1)) (w.heap.size + 1 + 1) t.erase := by
                      rw [h4]
                      exact EI.out.frame (by omega) HUX.out
                    refine ⟨stx, g', cap', _, rfl, rfl, by omega, HOX.out, HTX.out, hinv, fun hgU => ?_, HRX.out, HBB.out⟩
                    obtain ⟨_, _, cur, hcur⟩ := hinv.lt g' hgU
                    exact row_ne HOX.out hcur (by decide) rfl
                  case measure =>
                    have h2 := HLX.out
                    rw [List.take_length] at h2
                    rw [tload_snoc]
                    have h3 := y.nodes_eq
                    simp only
                    omega
#print axioms eraseI_any
end Go.Proofs.Ytnciibngcaajgaa

