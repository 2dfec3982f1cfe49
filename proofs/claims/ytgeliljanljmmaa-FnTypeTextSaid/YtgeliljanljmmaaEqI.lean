/-
  The contract of the program's EqualType: pairs of types wait in a row of its own.
-/
import Derived.Test.YtgeliljanljmmaaSpecEq
import Derived.Test.YtgeliljanljmmaaRowN
import Derived.Deep.LoopGhost
import Derived.Deep.CutRange
import Derived.Deep.RegionHeldLaw
namespace Go.Proofs.Ytgeliljanljmmaa
open Go Go.RowKit

/-- What waits to be compared, the next one last. -/
abbrev Pairs := List (Ty × Value × Ty × Value)
def pcells (st : Pairs) : List Value := st.flatMap fun e => [.int .i64 e.1.kind, e.2.1, .int .i64 e.2.2.1.kind, e.2.2.2]
theorem pcells_length (st : Pairs) : (pcells st).length = st.length * 4 := by
  induction st with
  | nil => rfl
  | cons e st ih => simp only [pcells, List.flatMap_cons, List.length_append, List.length_cons, List.length_nil] at *; omega
theorem pcells_snoc (st : Pairs) (e : Ty × Value × Ty × Value) : pcells (st ++ [e]) = pcells st ++ [.int .i64 e.1.kind, e.2.1, .int .i64 e.2.2.1.kind, e.2.2.2] := by simp [pcells]
theorem pcells_take (st : Pairs) (e : Ty × Value × Ty × Value) : (pcells (st ++ [e])).take (st.length * 4) = pcells st := by
  rw [pcells_snoc, ← pcells_length, List.take_left]
theorem pcells_last (st : Pairs) (e : Ty × Value × Ty × Value) : (pcells (st ++ [e]))[st.length * 4]? = some (.int .i64 e.1.kind) ∧ (pcells (st ++ [e]))[st.length * 4 + 1]? = some e.2.1 ∧ (pcells (st ++ [e]))[st.length * 4 + 2]? = some (.int .i64 e.2.2.1.kind) ∧ (pcells (st ++ [e]))[st.length * 4 + 3]? = some e.2.2.2 := by
  have h := pcells_length st
  rw [pcells_snoc]
  refine ⟨?_, ?_, ?_, ?_⟩ <;> (rw [List.getElem?_append_right (by omega), h]; simp)
/-- How many nodes wait on the left. -/
def pload (st : Pairs) : Nat := (st.map fun e => e.1.nodes).sum
theorem pload_snoc (st : Pairs) (e : Ty × Value × Ty × Value) : pload (st ++ [e]) = pload st + e.1.nodes := by simp [pload]
theorem pload_ge (st : Pairs) : st.length ≤ pload st := by
  induction st with
  | nil => simp [pload]
  | cons e st ih =>
    have := e.1.nodes_eq
    simp only [pload, List.map_cons, List.sum_cons, List.length_cons] at *
    omega
theorem infoPr : (Try.prog.info? 48).map (fun i => (i.zero, i.size, i.bytes)) = some (some (.agg #[.int .i64 0, .slice none 0 0, .int .i64 0, .slice none 0 0]), 4, 64) := by kernel_rfl

theorem wrap_in (n : Nat) (h : n ≤ 9223372036854775807) : IntKind.i64.wrap (n : Int) = n := IntWalk.i64_in _ (by omega)
theorem wrap64_nat (n : Nat) (h : n ≤ 9223372036854775807) : wrap64 (n : Int) = n := by
  unfold wrap64
  omega

theorem keepApp {w0 w' : World} {base : Nat} {e : TypeId} {size n : Nat} {v : Value} {xs cs : List Value} {g cap : Nat} (hA : Appd w0 w' base e size v n xs cs g cap) {p : Addr} {u : Value} (h : w0.cell? p = some u) (hne : v.ownBlock ≠ some p.block) : w'.cell? p = some u :=
  (World.cell?_of_block (hA.kept p.block (World.block_lt_of_cell? w0 _ h) hne).1).trans h

theorem two_blk0 (w : World) (A B : Array Value) (tA tB : TypeId) : ((w.alloc (.cells A tA)).alloc (.cells B tB)).drew.heap[w.heap.size]? = some (.cells A tA (0, 0)) := by
  show ((w.alloc (.cells A tA)).alloc (.cells B tB)).heap[w.heap.size]? = _
  rw [Below.heap_alloc _ _ _ (by simp)]
  exact blk_new _ _
theorem two_blk1 (w : World) (A B : Array Value) (tA tB : TypeId) : ((w.alloc (.cells A tA)).alloc (.cells B tB)).drew.heap[w.heap.size + 1]? = some (.cells B tB (0, 0)) := by
  show ((w.alloc (.cells A tA)).alloc (.cells B tB)).heap[w.heap.size + 1]? = _
  have := blk_new (w.alloc (.cells A tA)) (.cells B tB)
  rwa [World.size_alloc] at this

structure Cmp (w wr : World) (t u : Ty) (st : Pairs) (g cap : Nat) : Prop where
  own : wr.ownsRow w.heap.size 48 4 (.slice (some ⟨g, 0, none⟩) st.length cap) st.length (pcells st)
  ts : ∀ e ∈ st, TS w (· < w.heap.size) e.1.args e.2.1 ∧ TS w (· < w.heap.size) e.2.2.1.args e.2.2.2
  below : Below w.heap.size w wr

set_option maxRecDepth 100000 in
set_option maxHeartbeats 2000000 in
theorem eqI_any {C C' : Nat → Prop} {t u : Ty} {v x : Value} {w : World} (h : TT w C t v) (h2 : TT w C' u x) (hn : nodesS t.args ≤ 1048576) :
    Calls Try.prog 12 #[v, x] w (BoolRet (fun b => b = true ↔ t = u) w) := by
  obtain ⟨i0, hi, hz0, hz1, hz2⟩ := info_parts infoPr
  obtain ⟨s, rfl, hS⟩ := h
  obtain ⟨s2, rfl, hS2⟩ := h2
  obtain ⟨p, c, rfl⟩ := hS.form
  obtain ⟨p2, c2, rfl⟩ := hS2.form
  have HS := Lib.hid (hS.mono (C' := (· < w.heap.size)) (fun b _ h => h))
  have HS2 := Lib.hid (hS2.mono (C' := (· < w.heap.size)) (fun b _ h => h))
  clear hS hS2
  have hnn := t.nodes_eq
  go_enter Try.func12, Try.ntmps12
  go_wp2_with fail
  go_loopg [5] t.nodes (fun gk v wr => ∃ (st : Pairs) (g cap : Nat), v = .slice (some ⟨g, 0, none⟩) st.length cap ∧ gk = pload st ∧ gk ≤ t.nodes ∧ ((∀ e ∈ st, e.1 = e.2.2.1) ↔ t = u) ∧ Cmp w wr t u st g cap)
  case atStart =>
    refine ⟨[(t, .slice p t.args.length c, u, .slice p2 u.args.length c2)], w.heap.size + 1 + 1, 1, rfl, by simp [pload], Nat.le_refl _, by simp, ?_, ?_, ?_⟩
    · have h1 := World.ownsRow_lit (base := w.heap.size) (e := 48) (size := 4) ((w.alloc (.cells #[.int .i64 t.kind, .slice p t.args.length c] 26)).alloc (.cells #[.int .i64 u.kind, .slice p2 u.args.length c2] 26)) #[.int .i64 t.kind, .slice p t.args.length c, .int .i64 u.kind, .slice p2 u.args.length c2] 1 (by simp; omega) (by unfold maxLen; omega) rfl
      rw [show ((w.alloc (.cells #[.int .i64 t.kind, .slice p t.args.length c] 26)).alloc (.cells #[.int .i64 u.kind, .slice p2 u.args.length c2] 26)).heap.size = w.heap.size + 1 + 1 by simp] at h1
      exact h1
    · intro e he
      simp only [List.mem_singleton] at he
      subst he
      exact ⟨HS.out, HS2.out⟩
    · exact (((Below.refl _ w).alloc (Nat.le_refl _) _).alloc (by simp) _).alloc (by simp; omega) _
  case round =>
    obtain ⟨st, g, cap, rfl, hgk, hle, hiff, hM⟩ := hrel
    rename World => wo
    rcases snoc_cases st with rfl | ⟨st0, e, rfl⟩
    · have HI := Lib.hid hiff
      have HB := Lib.hid hM.below
      clear hM hiff hgk
      go_wp2_with fail
      go_ret
      exact ⟨true, by have := HI.out; simpa using this, rfl, HB.out⟩
    · obtain ⟨x, sx, y, sy⟩ := e
      obtain ⟨hTx, hTy⟩ := hM.ts (x, sx, y, sy) (by simp)
      simp only at hTx hTy
      obtain ⟨p1, c1, rfl⟩ := hTx.form
      obtain ⟨p3, c3, rfl⟩ := hTy.form
      have hlx := hTx.len
      have hly := hTy.len
      have hlen : (st0 ++ [((x, Value.slice p1 x.args.length c1, y, Value.slice p3 y.args.length c3) : Ty × Value × Ty × Value)]).length = st0.length + 1 := by simp
      have hown := hM.own
      rw [hlen] at hown
      rw [hlen]
      obtain ⟨hcap1, hcap2, hg1, hg2⟩ := row_cap hown
      have k0 := (hown.cellAt (st0.length * 4) (by omega)).trans (pcells_last st0 _).1
      have k1 := (hown.cellAt (st0.length * 4 + 1) (by omega)).trans (pcells_last st0 _).2.1
      have k2 := (hown.cellAt (st0.length * 4 + 2) (by omega)).trans (pcells_last st0 _).2.2.1
      have k3 := (hown.cellAt (st0.length * 4 + 3) (by omega)).trans (pcells_last st0 _).2.2.2
      simp only at k0 k1 k2 k3
      unfold maxLen at hcap2
      have HM := Lib.hid hM
      have HI := Lib.hid hiff
      have HTX := Lib.hid hTx
      have HTY := Lib.hid hTy
      have HOWN := Lib.hid hown
      have HGK := Lib.hid hgk
      clear hM hiff hTx hTy hown hgk
      have i0' : (0 : Int) ≤ (st0.length : Int) := Int.natCast_nonneg _
      have i1' : (st0.length : Int) < ((st0.length : Int) + 1) := by omega
      go_wp2_with fail
      go_cut [6, 7] from 13 to 69 (fun b6 b7 wx => ∃ bx bY : Nat, b6 = .pointer (some ⟨bx, 0, none⟩) ∧ b7 = .pointer (some ⟨bY, 0, none⟩) ∧ wx.heap[bx]? = some (.cells #[.int .i64 x.kind, .slice p1 x.args.length c1] 26 (0, 0)) ∧
        wx.heap[bY]? = some (.cells #[.int .i64 y.kind, .slice p3 y.args.length c3] 26 (0, 0)) ∧ Below wo.heap.size wo wx ∧ wo.heap.size ≤ bx ∧ wo.heap.size ≤ bY)
      case first =>
        have a3 := wrap_in st0.length (by omega)
        have a4 := wrap64_nat st0.length (by omega)
        go_region_held3 (fun w' => w'.cell? ⟨g, st0.length * 4, none⟩ = some (.int .i64 x.kind) ∧ w'.cell? ⟨g, st0.length * 4 + 1, none⟩ = some (.slice p1 x.args.length c1) ∧ w'.cell? ⟨g, st0.length * 4 + 2, none⟩ = some (.int .i64 y.kind) ∧ w'.cell? ⟨g, st0.length * 4 + 3, none⟩ = some (.slice p3 y.args.length c3))
          (first
            | (go_keep; done)
            | exact ⟨by simp [*], by simp [*], by simp [*], by simp [*]⟩)
          (fail)
        all_goals
          go_wp2_with fail
          go_meet
          case rel =>
            refine ⟨_, _, rfl, rfl, ?_, ?_, (((Below.refl _ wo).alloc (Nat.le_refl _) _).alloc (by simp) _).drew, by omega, by omega⟩
            · first | exact two_blk0 wo _ _ _ _ | exact two_blk1 wo _ _ _ _
            · first | exact two_blk0 wo _ _ _ _ | exact two_blk1 wo _ _ _ _
      case rest =>
        obtain ⟨bx, bY, rfl, rfl, hbx, hbY, hbw, hx0, hy0⟩ := hcut
        have x0 := cell_of_blk hbx 0
        have x1 := cell_of_blk hbx 1
        have y0 := cell_of_blk hbY 0
        have y1 := cell_of_blk hbY 1
        simp only [List.getElem?_toArray, List.getElem?_cons_zero, List.getElem?_cons_succ] at x0 x1 y0 y1
        have hB1 : Below w.heap.size w wc := HM.out.below.trans (hbw.mono HM.out.below.size)
        have hown1 : wc.ownsRow w.heap.size 48 4 (.slice (some ⟨g, 0, none⟩) st0.length cap) st0.length (pcells st0) := by
          have h2 := row_take (row_of_block HOWN.out (hbw.block g hg2)) (Nat.le_succ _)
          rw [pcells_take] at h2
          exact h2
        have HOW := Lib.hid hown1
        have HB1 := Lib.hid hB1
        have HBX := Lib.hid hbx
        have HBY := Lib.hid hbY
        clear hbx hbY hbw hB1 hown1 k0 k1 k2 k3
        by_cases hk : x.kind = y.kind
        · by_cases hl : x.args.length = y.args.length
          · have hgx : g ≠ bx := by omega
            have hgY : g ≠ bY := by omega
            have HL := Lib.hid hl
            have HKK := Lib.hid hk
            have HBX' := HBX
            have HBY' := HBY
            rw [← hl] at y1 HBY'
            have HM0 := Lib.hid (show Cmp w wc t u st0 g cap from ⟨HOW.out, fun e he => HM.out.ts e (List.mem_append_left _ he), HB1.out⟩)
            clear hl hk
            go_wp2_with fail
            go_loopw [5, 52] (fun v i wr => ∃ (k : Nat) (stx : Pairs) (g' cap' : Nat), v = .slice (some ⟨g', 0, none⟩) stx.length cap' ∧ i = .int .i64 k ∧ k ≤ x.args.length ∧ Cmp w wr t u stx g' cap' ∧ pload stx = pload st0 + nodesS (x.args.take k) ∧
              ((∀ e ∈ stx, e.1 = e.2.2.1) ↔ (∀ e ∈ st0, e.1 = e.2.2.1) ∧ x.args.take k = y.args.take k) ∧ wr.heap[bx]? = some (.cells #[.int .i64 x.kind, .slice p1 x.args.length c1] 26 (0, 0)) ∧
              wr.heap[bY]? = some (.cells #[.int .i64 y.kind, .slice p3 x.args.length c3] 26 (0, 0)) ∧ g' ≠ bx ∧ g' ≠ bY) (fun _ i _ => x.args.length - (intOf i).toNat)
            case atStart => exact ⟨0, st0, g, cap, rfl, rfl, Nat.zero_le _, HM0.out, by simp [nodesS], by simp, HBX.out, HBY'.out, hgx, hgY⟩
            case round =>
              obtain ⟨k, stx, g', cap', rfl, rfl, hk, hMx, hpl, hix, hbx, hbY, hne1, hne2⟩ := hrel
              have HMX := Lib.hid hMx
              have HPL := Lib.hid hpl
              have HIX := Lib.hid hix
              have z1 := cell_of_blk hbx 1
              have z2 := cell_of_blk hbY 1
              simp only [List.getElem?_toArray, List.getElem?_cons_zero, List.getElem?_cons_succ] at z1 z2
              have HBX2 := Lib.hid hbx
              have HBY2 := Lib.hid hbY
              clear hMx hpl hix hbx hbY x0 x1 y0 y1
              by_cases hlk : k < x.args.length
              · have hlk2 : k < y.args.length := by rw [← HL.out]; exact hlk
                have e1 := List.getElem?_eq_getElem hlk
                have e2 := List.getElem?_eq_getElem hlk2
                obtain ⟨b, o, p', c', rfl, hcs, hTk⟩ := HTX.out.at k _ e1
                obtain ⟨b2, o2, p2', c2', rfl, hcs2, hTk2⟩ := HTY.out.at k _ e2
                have hst : Stays (· < w.heap.size) w wr := .of_below HMX.out.below
                obtain ⟨f1, f2⟩ := hcs wr hst
                obtain ⟨f3, f4⟩ := hcs2 wr hst
                have hbnd : stx.length ≤ 1048577 := by
                  have h1 := pload_ge stx
                  have h2 := HPL.out
                  have h3 := nodesS_take_le x.args k
                  have h4 := HGK.out
                  rw [pload_snoc] at h4
                  simp only at h4
                  have h5 := x.nodes_eq
                  omega
                have hszw := HMX.out.below.size
                have HO0 := Lib.hid (show (wr.drew).ownsRow w.heap.size 48 4 (.slice (some ⟨g', 0, none⟩) stx.length cap') stx.length (pcells stx) from HMX.out.own)
                have hg0 := (row_cap HMX.out.own).2.2.1
                have hbw : b < w.heap.size := World.block_lt_of_cell? w _ (hcs w (Stays.refl _ _)).1
                have hb2w : b2 < w.heap.size := World.block_lt_of_cell? w _ (hcs2 w (Stays.refl _ _)).1
                have HKA := Lib.hid (fun (w' : World) (g2 cap2 : Nat) (hA : Appd wr.drew w' w.heap.size 48 4 (.slice (some ⟨g', 0, none⟩) stx.length cap') stx.length (pcells stx) [.int .i64 x.args[k].kind, .slice p' x.args[k].args.length c', .int .i64 y.args[k].kind, .slice p2' y.args[k].args.length c2'] g2 cap2) =>
                  (⟨keepApp hA z1 (fun e => hne1 (by simpa [Value.ownBlock] using e)), keepApp hA z2 (fun e => hne2 (by simpa [Value.ownBlock] using e)), keepApp hA f1 (fun e => by simp [Value.ownBlock] at e; omega), keepApp hA f2 (fun e => by simp [Value.ownBlock] at e; omega), keepApp hA f3 (fun e => by simp [Value.ownBlock] at e; omega), keepApp hA f4 (fun e => by simp [Value.ownBlock] at e; omega)⟩ :
                    w'.cell? ⟨bx, 1, none⟩ = some (.slice (some ⟨b, o, none⟩) x.args.length c1) ∧ w'.cell? ⟨bY, 1, none⟩ = some (.slice (some ⟨b2, o2, none⟩) x.args.length c3) ∧ w'.cell? ⟨b, o + k * 2, none⟩ = some (.int .i64 x.args[k].kind) ∧ w'.cell? ⟨b, o + k * 2 + 1, none⟩ = some (.slice p' x.args[k].args.length c') ∧ w'.cell? ⟨b2, o2 + k * 2, none⟩ = some (.int .i64 y.args[k].kind) ∧ w'.cell? ⟨b2, o2 + k * 2 + 1, none⟩ = some (.slice p2' y.args[k].args.length c2')))
                have HTK := Lib.hid hTk
                have HTK2 := Lib.hid hTk2
                have HSZ := Lib.hid hszw
                have i0' : (0 : Int) ≤ (k : Int) := Int.natCast_nonneg _
                have i1' : (k : Int) < (x.args.length : Int) := by omega
                have HNE1 := Lib.hid hne1
                have HNE2 := Lib.hid hne2
                clear hcs hcs2 hTk hTk2 e1 e2 hst hbw hb2w hg0 hszw hne1 hne2
                go_wp2_with fail
                go_region_held3 (fun w' => w'.cell? ⟨bx, 1, none⟩ = some (.slice (some ⟨b, o, none⟩) x.args.length c1) ∧ w'.cell? ⟨bY, 1, none⟩ = some (.slice (some ⟨b2, o2, none⟩) x.args.length c3) ∧ w'.cell? ⟨b, o + k * 2, none⟩ = some (.int .i64 x.args[k].kind) ∧ w'.cell? ⟨b, o + k * 2 + 1, none⟩ = some (.slice p' x.args[k].args.length c') ∧ w'.cell? ⟨b2, o2 + k * 2, none⟩ = some (.int .i64 y.args[k].kind) ∧ w'.cell? ⟨b2, o2 + k * 2 + 1, none⟩ = some (.slice p2' y.args[k].args.length c2'))
                  (first
                    | exact HKA.out _ _ _ hA
                    | (go_keep; done)
                    | exact ⟨by simp [*], by simp [*], by simp [*], by simp [*], by simp [*], by simp [*]⟩)
                  (first
                    | (refine step_app1 (w0 := wr.drew) (v := .slice (some ⟨g', 0, none⟩) stx.length cap') (n := stx.length) (xs := pcells stx) rfl (.tmp 55) (.tmp 67) rfl Try.underlying49 hi hz0 hz1 hz2 rfl (by decide) rfl HO0.out _ rfl (by simp) rfl (fun u hu => by simp at hu; rcases hu with rfl | rfl | rfl | rfl <;> rfl) (by unfold maxLen; omega) (by omega) (by simpa using HSZ.out) ?_; intro w' g2 cap2 hA))
                rename_i hH
                have HA := Lib.hid hA
                clear hH hA z1 z2 f1 f2 f3 f4
                go_wp2_with fail
                go_roundw
                case rel =>
                  have hkx := HA.out.kept bx (Array.getElem?_eq_some_iff.1 HBX2.out).1 (fun e => HNE1.out (by simpa [Value.ownBlock] using e))
                  have hkY := HA.out.kept bY (Array.getElem?_eq_some_iff.1 HBY2.out).1 (fun e => HNE2.out (by simpa [Value.ownBlock] using e))
                  have hown' := HA.out.own
                  refine ⟨k + 1, stx ++ [(x.args[k], .slice p' x.args[k].args.length c', y.args[k], .slice p2' y.args[k].args.length c2')], g2, cap2, by rw [List.length_append]; rfl, by go_num, by omega, ⟨?_, ?_, ?_⟩, ?_, ?_, hkx.1.trans HBX2.out, hkY.1.trans HBY2.out, hkx.2, hkY.2⟩
                  · rw [List.length_append, pcells_snoc]
                    exact hown'
                  · intro e he
                    rcases List.mem_append.1 he with he | he
                    · exact HMX.out.ts e he
                    · simp only [List.mem_singleton] at he
                      subst he
                      exact ⟨HTK.out, HTK2.out⟩
                  · exact HMX.out.below.trans ((Below.refl w.heap.size wr).drew.trans HA.out.below)
                  · rw [pload_snoc, HPL.out, nodesS_take_next _ _ hlk, Nat.add_assoc]
                  · rw [List.forall_mem_append, HIX.out, List.forall_mem_singleton]
                    simp only
                    constructor
                    · rintro ⟨⟨h1, h2⟩, h3⟩
                      exact ⟨h1, by rw [take_next hlk, take_next hlk2, h2, h3]⟩
                    · rintro ⟨h1, h2⟩
                      rw [take_next hlk, take_next hlk2] at h2
                      obtain ⟨h3, h4⟩ := List.append_inj h2 (by rw [List.length_take, List.length_take]; omega)
                      simp only [List.cons.injEq, and_true] at h4
                      exact ⟨⟨h1, h3⟩, h4⟩
                case measure => simp [intOf]; omega
              · obtain rfl : k = x.args.length := by omega
                clear z1 z2
                go_wp2_with fail
                go_roundg (pload stx)
                case rel =>
                  have h1 := HPL.out
                  rw [List.take_length] at h1
                  have h2 := HGK.out
                  rw [pload_snoc] at h2
                  simp only at h2
                  have h3 := x.nodes_eq
                  have h4 := HIX.out
                  rw [List.take_length, HL.out, List.take_length] at h4
                  refine ⟨stx, g', cap', rfl, rfl, by omega, ?_, HMX.out⟩
                  rw [h4, ← HI.out, List.forall_mem_append, List.forall_mem_singleton]
                  simp only
                  constructor
                  · rintro ⟨h1, h2⟩
                    exact ⟨h1, Ty.ext HKK.out h2⟩
                  · rintro ⟨h1, h2⟩
                    exact ⟨h1, by rw [h2]⟩
                case measure =>
                  have h1 := HPL.out
                  rw [List.take_length] at h1
                  have h2 := HGK.out
                  rw [pload_snoc] at h2
                  simp only at h2
                  have h3 := x.nodes_eq
                  omega
          · have HN := Lib.hid (fun (e : t = u) => hl (by have := HI.out.2 e (x, .slice p1 x.args.length c1, y, .slice p3 y.args.length c3) (by simp); simp only at this; rw [this]))
            go_wp2_with fail
            go_ret
            exact ⟨false, by simpa using HN.out, rfl, HB1.out⟩
        · have HN := Lib.hid (fun (e : t = u) => hk (by have := HI.out.2 e (x, .slice p1 x.args.length c1, y, .slice p3 y.args.length c3) (by simp); simp only at this; rw [this]))
          go_wp2_with fail
          go_ret
          exact ⟨false, by simpa using HN.out, rfl, HB1.out⟩
#print axioms eqI_any
end Go.Proofs.Ytgeliljanljmmaa

