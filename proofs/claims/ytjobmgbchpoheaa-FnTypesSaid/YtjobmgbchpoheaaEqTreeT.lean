/-
  The contract of the program's equalTrees at a type (geneq.py writes this text).
-/
import Derived.Test.YtjobmgbchpoheaaNodesT
import Derived.Test.YtjobmgbchpoheaaLoopW
import Derived.Test.YtjobmgbchpoheaaTyInd
import Derived.RegionTactic
import Derived.ChangeAlike
namespace Go.Proofs.Ytjobmgbchpoheaa
open Go Go.RowKit Go.Shelf

/-- What waits to be compared, the next pair last: two lists, their slices' values. -/
abbrev PairsT := List (List Ty × Value × List Ty × Value)
def pcellsT (st : PairsT) : List Value := st.flatMap fun e => [e.2.1, e.2.2.2]
theorem pcellsT_length (st : PairsT) : (pcellsT st).length = st.length * 2 := by
  induction st with
  | nil => rfl
  | cons e st ih => simp only [pcellsT, List.flatMap_cons, List.length_append, List.length_cons, List.length_nil] at *; omega
theorem pcellsT_snoc (st : PairsT) (e : List Ty × Value × List Ty × Value) : pcellsT (st ++ [e]) = pcellsT st ++ [e.2.1, e.2.2.2] := by simp [pcellsT]
theorem pcellsT_take (st : PairsT) (e : List Ty × Value × List Ty × Value) : (pcellsT (st ++ [e])).take (st.length * 2) = pcellsT st := by
  rw [pcellsT_snoc, ← pcellsT_length, List.take_left]
theorem pcellsT_last (st : PairsT) (e : List Ty × Value × List Ty × Value) : (pcellsT (st ++ [e]))[st.length * 2]? = some e.2.1 ∧ (pcellsT (st ++ [e]))[st.length * 2 + 1]? = some e.2.2.2 := by
  have h := pcellsT_length st
  rw [pcellsT_snoc]
  refine ⟨?_, ?_⟩ <;> (rw [List.getElem?_append_right (by omega), h]; simp)
theorem pcellsT_set (st : PairsT) (e : List Ty × Value × List Ty × Value) (xs ys : List Ty) (u v : Value) : ((pcellsT (st ++ [e])).set (st.length * 2) u).set (st.length * 2 + 1) v = pcellsT (st ++ [(xs, u, ys, v)]) := by
  have h := pcellsT_length st
  rw [pcellsT_snoc, pcellsT_snoc, List.set_append, if_neg (by omega), List.set_append, if_neg (by omega), h]
  simp
/-- How many nodes wait on the left. -/
def ploadT (st : PairsT) : Nat := (st.map fun e => nodesS e.1).sum
theorem ploadT_snoc (st : PairsT) (e : List Ty × Value × List Ty × Value) : ploadT (st ++ [e]) = ploadT st + nodesS e.1 := by simp [ploadT]
theorem infoPrT : (Try.prog.info? 82).map (fun i => (i.zero, i.size, i.bytes)) = some (some (.agg #[.slice none 0 0, .slice none 0 0]), 2, 48) := by kernel_rfl

/-- A list of one, in a row of its own. -/
theorem oneT {W : World} {C : Nat → Prop} {t : Ty} {p : Option Addr} {c : Nat} {r : Nat} (h : TS' W C t p c) (hr : W.heap[r]? = some (.cells #[.int .i64 t.kind, .slice p t.args.length c] 26 (0, 0))) (hC : C r) : LT W C [t] (.slice (some ⟨r, 0, none⟩) 1 1) := by
  have hlt := (Array.getElem?_eq_some_iff.1 hr).1
  refine .cons (ts := [t]) (fun _ => .slice p t.args.length c) (by simp) (by simp) (by omega) hC hlt (fun j x hj => ?_) (fun j x hj => ?_) (fun j x hj => ?_)
  all_goals
    have hj0 : j < 1 := (List.getElem?_eq_some_iff.1 hj).1
    obtain rfl : j = 0 := by omega
    obtain rfl : t = x := by simpa using hj
  · exact cell_of_blk hr 0
  · exact cell_of_blk hr 1
  · exact h
/-- A list's first node: where it lies; the list without it. -/
theorem openT {W wr : World} {C : Nat → Prop} {x : Ty} {l : List Ty} {v : Value} (hT : LT W C (x :: l) v) (h : Stays C W wr) :
    ∃ (b o c : Nat) (p' : Option Addr) (c' : Nat), v = .slice (some ⟨b, o, none⟩) (l.length + 1) c ∧ l.length + 1 ≤ c ∧ c ≤ 9223372036854775807 ∧ C b ∧ b < wr.heap.size ∧
      At2 wr b o x p' c' ∧ TS' W C x p' c' ∧ ∀ q, (l ≠ [] → q = some ⟨b, o + 2, none⟩) → LT W C l (.slice q l.length (c - 1)) := by
  cases hT with
  | @cons _ b o c S h1 hc hm hC hb hk hs hr =>
    obtain ⟨p', c', hf⟩ := (hr 0 x rfl).form
    have e0 := hk 0 x rfl
    have e1 := hs 0 x rfl
    rw [Nat.zero_mul, Nat.add_zero] at e0 e1
    rw [hf] at e1
    have hkeep : ∀ i u, W.cell? ⟨b, i, none⟩ = some u → wr.cell? ⟨b, i, none⟩ = some u := fun i u hu => (World.cell?_of_block (w := W) (a := ⟨b, i, none⟩) (h.2 b hC hb)).trans hu
    refine ⟨b, o, c, p', c', rfl, hc, hm, hC, Nat.lt_of_lt_of_le hb h.1, ⟨hkeep _ _ e0, hkeep _ _ e1⟩, (by show TS W C x.args _; rw [← hf]; exact hr 0 x rfl), fun q hq => ?_⟩
    by_cases hl : l = []
    · subst hl; exact .nil _ _
    · rw [hq hl]
      have hl1 : 1 ≤ l.length := by cases l with | nil => exact absurd rfl hl | cons => simp
      refine .cons (fun j => S (j + 1)) hl1 (by simp only [List.length_cons] at hc; omega) (by omega) hC hb (fun j y hj => ?_) (fun j y hj => ?_) (fun j y hj => hr (j + 1) y (by simpa using hj))
      · have := hk (j + 1) y (by simpa using hj)
        rw [show o + (j + 1) * 2 = o + 2 + j * 2 by omega] at this; exact this
      · have := hs (j + 1) y (by simpa using hj)
        rw [show o + (j + 1) * 2 = o + 2 + j * 2 by omega] at this; exact this
theorem tailT_q {W : World} {C : Nat → Prop} {l : List Ty} {b o c : Nat} (hlc : l.length + 1 ≤ c) (h : ∀ q, (l ≠ [] → q = some ⟨b, o + 2, none⟩) → LT W C l (.slice q l.length (c - 1))) :
    ∃ q, (if c = 1 then some (⟨b, o, none⟩ : Addr) else some ⟨b, o + 2, none⟩) = q ∧ LT W C l (.slice q l.length (c - 1)) :=
  ⟨_, rfl, h _ (fun hne => by
    have h1 : 1 ≤ l.length := by cases l with | nil => exact absurd rfl hne | cons => simp
    rw [if_neg (by omega)])⟩

theorem keepUT {W w1 : World} {p : Addr} {v : Value} (hb1 : Below W.heap.size W w1) (h : W.cell? p = some v) : w1.cell? p = some v := (hb1.cell (World.block_lt_of_cell? W _ h)).trans h
theorem keepST {W w1 : World} {p0 p1 p2 p3 : Addr} {v0 v1 v2 v3 : Value} (hb1 : Below W.heap.size W w1) (h : W.cell? p0 = some v0 ∧ W.cell? p1 = some v1 ∧ W.cell? p2 = some v2 ∧ W.cell? p3 = some v3) : w1.cell? p0 = some v0 ∧ w1.cell? p1 = some v1 ∧ w1.cell? p2 = some v2 ∧ w1.cell? p3 = some v3 := by
  obtain ⟨h0, h1, h2, h3⟩ := h
  exact ⟨keepUT hb1 h0, keepUT hb1 h1, keepUT hb1 h2, keepUT hb1 h3⟩
theorem keepAT {w0 w' : World} {base : Nat} {e : TypeId} {size n m c g cap g0 : Nat} {xs cs : List Value} {b1 b3 o0 o1 o2 o3 : Nat} {v0 v1 v2 v3 : Value} (hA : Appd w0 w' base e size (.slice (some ⟨g0, 0, none⟩) m c) n xs cs g cap) (h1 : b1 ≠ g0) (h3 : b3 ≠ g0) (h : w0.cell? ⟨b1, o0, none⟩ = some v0 ∧ w0.cell? ⟨b1, o1, none⟩ = some v1 ∧ w0.cell? ⟨b3, o2, none⟩ = some v2 ∧ w0.cell? ⟨b3, o3, none⟩ = some v3) : w'.cell? ⟨b1, o0, none⟩ = some v0 ∧ w'.cell? ⟨b1, o1, none⟩ = some v1 ∧ w'.cell? ⟨b3, o2, none⟩ = some v2 ∧ w'.cell? ⟨b3, o3, none⟩ = some v3 := by
  obtain ⟨q0, q1, q2, q3⟩ := h
  have k1 : (Value.slice (some ⟨g0, 0, none⟩) m c).ownBlock ≠ some b1 := by simp [Value.ownBlock]; omega
  have k3 : (Value.slice (some ⟨g0, 0, none⟩) m c).ownBlock ≠ some b3 := by simp [Value.ownBlock]; omega
  exact ⟨keepApp hA q0 k1, keepApp hA q1 k1, keepApp hA q2 k3, keepApp hA q3 k3⟩

structure CmpT (Q : Ty → Prop) (w wr : World) (st : PairsT) (g cap : Nat) : Prop where
  own : wr.ownsRow w.heap.size 82 2 (.slice (some ⟨g, 0, none⟩) st.length cap) st.length (pcellsT st)
  ts : ∀ e ∈ st, LT w (· < w.heap.size) e.1 e.2.1 ∧ LT w (· < w.heap.size) e.2.2.1 e.2.2.2
  below : Below w.heap.size w wr
  q : ∀ e ∈ st, ∀ y ∈ e.1, Q y

set_option maxRecDepth 100000 in
set_option maxHeartbeats 4000000 in
theorem eqTreesT_any {C : Nat → Prop} {t u : Ty} {v1 v2 : Value} {w : World} (h1 : NT w C t v1) (h2 : NT w C u v2) (hn : t.nodes ≤ 2097153) (eqn : Ty → Ty → Prop) (Q : Ty → Prop) (hQ : ∀ x, Q x → ∀ y ∈ x.args, Q y) (hQt : Q t) (hext : ∀ x y, x = y ↔ eqn x y ∧ x.args = y.args)
    (hp : ∀ (x y : Ty) (v1 v2 : Value) (W : World) (C : Nat → Prop), Q x → NT W C x v1 → NT W C y v2 → Calls Try.prog 44 #[v1, v2] W (BoolRet (fun b => b = true ↔ eqn x y) W)) :
    Calls Try.prog 43 #[v1, v2, .func (.func 33) #[] #[], .func (.func 44) #[] #[]] w (BoolRet (fun b => b = true ↔ t = u) w) := by
  obtain ⟨i0, hi, hz0, hz1, hz2⟩ := info_parts infoPrT
  obtain ⟨s1, rfl, hT1⟩ := h1
  obtain ⟨p1, c1, rfl⟩ := hT1.form
  obtain ⟨s2, rfl, hT2⟩ := h2
  obtain ⟨p2, c2, rfl⟩ := hT2.form
  have HP := Lib.hid hp
  have HE := Lib.hid hext
  have HQ := Lib.hid hQ
  have HQT := Lib.hid hQt
  clear hp hext hQ hQt
  go_enter Try.func43, Try.ntmps43
  go_wp2_with fail
  obtain ⟨W0, hW0, hs0, hb0, _, _, r1, r2⟩ := box_new4 w #[.int .i64 t.kind, .slice p1 t.args.length c1] #[.int .i64 u.kind, .slice p2 u.args.length c2] #[.int .i64 t.kind, .slice p1 t.args.length c1] #[.int .i64 u.kind, .slice p2 u.args.length c2] 26 26 26 26
  rw [hW0]
  have HL1 := Lib.hid (oneT (C := (· < W0.heap.size)) ((hT1.stays (.of_below hb0)).mono (fun _ _ hl => hl)) r1 (by omega))
  have HL2 := Lib.hid (oneT (C := (· < W0.heap.size)) ((hT2.stays (.of_below hb0)).mono (fun _ _ hl => hl)) r2 (by omega))
  have HB0 := Lib.hid hb0
  have HS0 := Lib.hid hs0
  have hnt := hn
  rw [show w.heap.size + 1 + 1 + 1 + 1 = W0.heap.size by omega]
  clear hT1 hT2 r1 r2 hb0 hW0 hs0
  go_loopg [9] (2 * t.nodes + 1) (fun gk v wr => ∃ (st : PairsT) (g cap : Nat), v = .slice (some ⟨g, 0, none⟩) st.length cap ∧ gk = 2 * ploadT st + st.length ∧ st.length + ploadT st ≤ t.nodes + 1 ∧ ((∀ e ∈ st, e.1 = e.2.2.1) ↔ t = u) ∧ CmpT Q W0 wr st g cap)
  case atStart =>
    refine ⟨[([t], .slice (some ⟨w.heap.size + 1 + 1, 0, none⟩) 1 1, [u], .slice (some ⟨w.heap.size + 1 + 1 + 1, 0, none⟩) 1 1)], W0.heap.size, 1, rfl, by simp [ploadT, nodesS], by simp [ploadT, nodesS]; omega, by simp, ?_, ?_, ?_, ?_⟩
    · exact World.ownsRow_lit (base := W0.heap.size) (e := 82) (size := 2) W0 #[.slice (some ⟨w.heap.size + 1 + 1, 0, none⟩) 1 1, .slice (some ⟨w.heap.size + 1 + 1 + 1, 0, none⟩) 1 1] 1 (Nat.le_refl _) (by unfold maxLen; omega) rfl
    · intro e he
      simp only [List.mem_singleton] at he
      subst he
      exact ⟨HL1.out, HL2.out⟩
    · exact (Below.refl _ W0).alloc (Nat.le_refl _) _
    · intro e he y hy
      simp only [List.mem_singleton] at he
      subst he
      simp only [List.mem_singleton] at hy
      subst hy
      exact HQT.out
  case round =>
    obtain ⟨st, g, cap, rfl, rfl, hle, hiff, hM⟩ := hrel
    rename World => wo
    rcases snoc_cases st with rfl | ⟨st0, ⟨xs, s1, ys, s2⟩, rfl⟩
    · have HI := Lib.hid hiff
      have HB := Lib.hid (HB0.out.trans (hM.below.mono HB0.out.size))
      clear hM hiff hle
      go_wp2_with fail
      go_ret
      exact ⟨true, by have := HI.out; simpa using this, rfl, HB.out⟩
    · obtain ⟨hTx, hTy⟩ := hM.ts (xs, s1, ys, s2) (by simp)
      simp only at hTx hTy
      obtain ⟨p1, c1, rfl⟩ := hTx.form
      obtain ⟨p3, c3, rfl⟩ := hTy.form
      have hlen : (st0 ++ [((xs, Value.slice p1 xs.length c1, ys, Value.slice p3 ys.length c3) : List Ty × Value × List Ty × Value)]).length = st0.length + 1 := by simp
      have hown := hM.own
      rw [hlen] at hown
      rw [hlen]
      obtain ⟨hcap1, hcap2, hg1, hg2⟩ := row_cap hown
      have k0 := (hown.cellAt (st0.length * 2) (by omega)).trans (pcellsT_last st0 _).1
      have k1 := (hown.cellAt (st0.length * 2 + 1) (by omega)).trans (pcellsT_last st0 _).2
      have kz := fun j => hown.frozenAt j
      simp only at k0 k1
      unfold maxLen at hcap2
      have hcnt : st0.length ≤ 2097153 := by
        rw [hlen] at hle
        omega
      have HM := Lib.hid hM
      have HI := Lib.hid hiff
      have HOWN := Lib.hid hown
      have HLE := Lib.hid hle
      have hlx := hTx.len
      have hly := hTy.len
      have HTX := Lib.hid hTx
      have HTY := Lib.hid hTy
      clear hM hiff hown hle hTx hTy
      have i0' : (0 : Int) ≤ (st0.length : Int) := Int.natCast_nonneg _
      have i1' : (st0.length : Int) < ((st0.length : Int) + 1) := by omega
      go_wp2_with fail
      go_region
      by_cases hl : xs.length = ys.length
      · cases xs with
        | nil =>
          obtain rfl : ys = [] := List.eq_nil_of_length_eq_zero hl.symm
          clear k0 k1 hl
          go_wp2_with fail
          go_roundg (2 * ploadT st0 + st0.length)
          case rel =>
            have h1 := row_take HOWN.out (Nat.le_succ st0.length)
            rw [pcellsT_take] at h1
            refine ⟨st0, g, cap, rfl, rfl, ?_, ?_, ⟨h1.drew, fun e he => HM.out.ts e (List.mem_append_left _ he), HM.out.below.drew, fun e he => HM.out.q e (List.mem_append_left _ he)⟩⟩
            · have := HLE.out
              rw [hlen, ploadT_snoc] at this
              omega
            · rw [← HI.out, List.forall_mem_append, List.forall_mem_singleton]
              simp
          case measure =>
            rw [ploadT_snoc, List.length_append, List.length_singleton]
            simp only [nodesS]
            omega
        | cons x xs =>
          cases ys with
          | nil => simp at hl
          | cons y ys =>
            have hl' : xs.length = ys.length := by simpa using hl
            obtain ⟨b1, o1, d1, p'1, c'1, e1, hlc1, h63, hC1, hbw1, hcell1, hnx1, ht1⟩ := openT HTX.out (wr := wo) (.of_below HM.out.below)
            obtain ⟨b3, o3, d3, p'3, c'3, e3, hlc3, h633, hC3, hbw3, hcell3, hnx3, ht3⟩ := openT HTY.out (wr := wo) (.of_below HM.out.below)
            simp only [Value.slice.injEq] at e1 e3
            obtain ⟨rfl, _, rfl⟩ := e1
            obtain ⟨rfl, _, rfl⟩ := e3
            obtain ⟨q1, hq1, hT1⟩ := tailT_q hlc1 ht1
            obtain ⟨q3, hq3, hT3⟩ := tailT_q hlc3 ht3
            obtain ⟨f0, f1⟩ := hcell1
            obtain ⟨g0, g1⟩ := hcell3
            have HT1 := Lib.hid hT1
            have HT3 := Lib.hid hT3
            have HNX1 := Lib.hid hnx1
            have HNX3 := Lib.hid hnx3
            have hb1g : b1 ≠ g := by omega
            have hb3g : b3 ≠ g := by omega
            have HHL := Lib.hid hl'
            have hqx : Q x := HM.out.q _ (List.mem_append_right _ (List.mem_singleton_self _)) x (by simp)
            have hqs : ∀ y ∈ xs, Q y := fun y hy => HM.out.q _ (List.mem_append_right _ (List.mem_singleton_self _)) y (by simp [hy])
            have HQX := Lib.hid hqx
            have HQS := Lib.hid hqs
            have HC := Lib.hid (fun (W : World) (hW : Below wo.drew.heap.size wo.drew W) =>
              have hst : Stays (· < W0.heap.size) W0 W := .of_below (HM.out.below.trans (((Below.refl wo.heap.size wo).drew.trans hW).mono HM.out.below.size))
              HP.out x y (.agg #[.int .i64 x.kind, .slice p'1 x.args.length c'1]) (.agg #[.int .i64 y.kind, .slice p'3 y.args.length c'3]) W (· < W0.heap.size) hqx (ntT_mk (HNX1.out.stays hst)) (ntT_mk (HNX3.out.stays hst)))
            have l0 : (0 : Int) < ((xs.length : Int) + 1) := by omega
            have l1 : (0 : Int) < ((ys.length : Int) + 1) := by omega
            simp only [List.length_cons] at hl
            rw [← hl'] at *
            clear hqx hqs hl hT1 hT3 ht1 ht3 hnx1 hnx3 k0 k1
            go_wp2_with fail
            go_region_held3 (fun w' => w'.cell? ⟨b1, o1, none⟩ = some (.int .i64 x.kind) ∧ w'.cell? ⟨b1, o1 + 1, none⟩ = some (.slice p'1 x.args.length c'1) ∧ w'.cell? ⟨b3, o3, none⟩ = some (.int .i64 y.kind) ∧ w'.cell? ⟨b3, o3 + 1, none⟩ = some (.slice p'3 y.args.length c'3))
              (first
                | (go_keep; done)
                | exact keepST hb1 (by assumption)
                | exact ⟨f0, f1, g0, g1⟩
                | fail)
              (first
                | (go_at_call 44; refine (HC.out _ (Below.refl _ _)).mono ?_; rintro e w1 ⟨r, hr, rfl, hb1⟩)
                | (go_at_call 44; refine (HC.out _ (Below.refl _ _).drew).mono ?_; rintro e w1 ⟨r, hr, rfl, hb1⟩))
            have HR := Lib.hid hr
            have hb1' : Below wo.heap.size wo w1 := (Below.refl wo.heap.size wo).drew.drew.trans hb1
            have hb1W : Below W0.heap.size W0 w1 := HM.out.below.trans (hb1'.mono HM.out.below.size)
            have HB1 := Lib.hid hb1'
            have HB1W := Lib.hid hb1W
            clear hr hb1 hb1' hb1W kz
            cases r with
            | false =>
              have HN := Lib.hid (show ¬ t = u from fun e => by
                have h1 := HI.out.2 e _ (List.mem_append_right _ (List.mem_singleton_self _))
                simp only [List.cons.injEq] at h1
                have h2 := HR.out.2 ((HE.out x y).1 h1.1).1
                cases h2)
              go_wp2_with fail
              go_ret
              exact ⟨false, by simpa using HN.out, rfl, HB0.out.trans (HB1W.out.mono HB0.out.size)⟩
            | true =>
              have hbw := HB1.out.block
              have hown1 := row_of_block HOWN.out (hbw g hg2)
              have kz := fun j => hown1.frozenAt j
              obtain ⟨hs1, hgr1⟩ := hown1.stored (st0.length * 2) (.slice q1 xs.length (c1 - 1))
              obtain ⟨hs2, hgr2⟩ := hs1.stored (st0.length * 2 + 1) (.slice q3 xs.length (c3 - 1))
              rw [pcellsT_set st0 _ xs ys] at hs2
              have k0 := hown1.cellAt (st0.length * 2) (by omega)
              have k1 := hown1.cellAt (st0.length * 2 + 1) (by omega)
              rw [(pcellsT_last st0 _).1] at k0
              rw [(pcellsT_last st0 _).2] at k1
              have HS2 := Lib.hid hs2
              have HOWN1 := Lib.hid hown1
              clear hs1 hs2 hgr1 hgr2 hown1 hbw
              go_wp2_with fail
              go_region
              obtain ⟨w2, hw2⟩ : ∃ w2, (w1.setCell ⟨g, st0.length * 2, none⟩ (.slice q1 xs.length (c1 - 1))).setCell ⟨g, st0.length * 2 + 1, none⟩ (.slice q3 xs.length (c3 - 1)) = w2 := ⟨_, rfl⟩
              have hb2 : Below W0.heap.size w1 w2 := by
                rw [← hw2]
                exact ((Below.refl _ w1).setCell (p := ⟨g, st0.length * 2, none⟩) hg1 _).setCell (p := ⟨g, st0.length * 2 + 1, none⟩) hg1 _
              have hoth : ∀ z, z ≠ g → w2.heap[z]? = w1.heap[z]? := fun z hz => by
                rw [← hw2, Below.heap_setCell _ _ _ _ hz, Below.heap_setCell _ _ _ _ hz]
              have hsz2 : w1.heap.size ≤ w2.heap.size := hb2.size
              rw [hw2]
              have hs2 := HS2.out
              rw [hw2] at hs2
              have hb1w : ∀ z, z < wo.heap.size → z ≠ g → w2.heap[z]? = wo.heap[z]? := fun z hz hne => (hoth z hne).trans (HB1.out.block z hz)
              have f0 := (World.cell?_of_block (a := ⟨b1, o1, none⟩) (hb1w b1 hbw1 hb1g)).trans f0
              have f1 := (World.cell?_of_block (a := ⟨b1, o1 + 1, none⟩) (hb1w b1 hbw1 hb1g)).trans f1
              have g0 := (World.cell?_of_block (a := ⟨b3, o3, none⟩) (hb1w b3 hbw3 hb3g)).trans g0
              have g1 := (World.cell?_of_block (a := ⟨b3, o3 + 1, none⟩) (hb1w b3 hbw3 hb3g)).trans g1
              have HS3 := Lib.hid hs2
              have HB2 := Lib.hid (HB1W.out.trans hb2)
              clear hw2 hb2 hoth HS2 HOWN1 hs2 k0 k1 kz hb1w
              go_wp2_with fail
              have HBJ := Lib.hid (fun (Wa Wb : World) (h3 : Below w2.drew.drew.heap.size w2.drew.drew Wa) (h4 : Below Wa.heap.size Wa Wb) => (((Below.refl w2.heap.size w2).drew.drew.trans h3).trans (h4.mono (by have := h3.size; simp at this; omega)) : Below w2.heap.size w2 Wb))
              have HKA := Lib.hid (fun (Wb w' : World) (gr cr : Nat) (hW : Below w2.heap.size w2 Wb) (hA : Appd Wb w' W0.heap.size 82 2 (.slice (some ⟨g, 0, none⟩) (st0.length + 1) cap) (st0.length + 1) (pcellsT (st0 ++ [(xs, .slice q1 xs.length (c1 - 1), ys, .slice q3 xs.length (c3 - 1))])) [.slice p'1 x.args.length c'1, .slice p'3 y.args.length c'3] gr cr) =>
                (keepAT hA hb1g hb3g (keepST hW ⟨f0, f1, g0, g1⟩) : w'.cell? ⟨b1, o1, none⟩ = some (.int .i64 x.kind) ∧ w'.cell? ⟨b1, o1 + 1, none⟩ = some (.slice p'1 x.args.length c'1) ∧ w'.cell? ⟨b3, o3, none⟩ = some (.int .i64 y.kind) ∧ w'.cell? ⟨b3, o3 + 1, none⟩ = some (.slice p'3 y.args.length c'3)))
              have hsz4 : W0.heap.size ≤ w2.heap.size := HB2.out.size
              go_region_held3 (fun w' => w'.cell? ⟨b1, o1, none⟩ = some (.int .i64 x.kind) ∧ w'.cell? ⟨b1, o1 + 1, none⟩ = some (.slice p'1 x.args.length c'1) ∧ w'.cell? ⟨b3, o3, none⟩ = some (.int .i64 y.kind) ∧ w'.cell? ⟨b3, o3 + 1, none⟩ = some (.slice p'3 y.args.length c'3))
                (first
                  | (go_keep; done)
                  | exact HKA.out _ _ _ _ (HBJ.out _ _ hb3 hb4) hA
                  | exact keepST hb4 (by assumption)
                  | exact keepST hb3 (by assumption)
                  | exact ⟨f0, f1, g0, g1⟩
                  | fail)
                (first
                  | (go_at_call_of 33 (Value.agg #[.int .i64 x.kind, .slice p'1 x.args.length c'1]); refine (argsT_any _ _ _ _ _).mono ?_; rintro e w3 ⟨rfl, hb3⟩)
                  | (go_at_call_of 33 (Value.agg #[.int .i64 y.kind, .slice p'3 y.args.length c'3]); refine (argsT_any _ _ _ _ _).mono ?_; rintro e w4 ⟨rfl, hb4⟩)
                  | (refine step_app1 (w0 := w4) (base := W0.heap.size) (v := .slice (some ⟨g, 0, none⟩) (st0.length + 1) cap) (n := st0.length + 1) (xs := pcellsT (st0 ++ [(xs, .slice q1 xs.length (c1 - 1), ys, .slice q3 xs.length (c3 - 1))])) (cs := [.slice p'1 x.args.length c'1, .slice p'3 y.args.length c'3]) rfl (.tmp 63) (.tmp 75) rfl Try.underlying83 hi hz0 hz1 hz2 rfl (by decide) rfl (row_below HS3.out (HBJ.out _ _ hb3 hb4)) _ rfl (by simp) rfl (fun u hu => by simp at hu; rcases hu with rfl | rfl <;> rfl) (by unfold maxLen; omega) (by omega) (Nat.le_trans hsz4 (HBJ.out _ _ hb3 hb4).size) ?_; intro w' gr cr hA)
                  | fail)
              have HA := Lib.hid hA
              have HB4 := Lib.hid (HBJ.out _ _ hb3 hb4)
              clear hA hb3 hb4
              go_wp2_with fail
              have hlen3 : (st0 ++ [((xs, Value.slice q1 xs.length (c1 - 1), ys, Value.slice q3 xs.length (c3 - 1)) : List Ty × Value × List Ty × Value)]).length = st0.length + 1 := by simp
              go_roundg (2 * ploadT ((st0 ++ [(xs, Value.slice q1 xs.length (c1 - 1), ys, Value.slice q3 xs.length (c3 - 1))]) ++ [(x.args, .slice p'1 x.args.length c'1, y.args, .slice p'3 y.args.length c'3)]) + (st0.length + 2))
              case rel =>
                refine ⟨(st0 ++ [(xs, .slice q1 xs.length (c1 - 1), ys, .slice q3 xs.length (c3 - 1))]) ++ [(x.args, .slice p'1 x.args.length c'1, y.args, .slice p'3 y.args.length c'3)], gr, cr, by rw [List.length_append, hlen3]; rfl, by rw [List.length_append, hlen3]; rfl, ?_, ?_, ⟨?_, fun e he => ?_, HB2.out.trans ((HB4.out.mono HB2.out.size).trans HA.out.below), fun e he => ?_⟩⟩
                · have h1 := HLE.out
                  rw [hlen, ploadT_snoc] at h1
                  rw [List.length_append, hlen3, ploadT_snoc, ploadT_snoc]
                  have h2 := Ty.nodes_eq x
                  simp only [nodesS, List.length_singleton] at h1 ⊢
                  omega
                · rw [← HI.out]
                  have h3 := (HE.out x y)
                  have h4 : eqn x y := by simpa using HR.out
                  simp only [List.forall_mem_append, List.forall_mem_singleton, List.cons.injEq]
                  constructor
                  · rintro ⟨⟨a1, a2⟩, a3⟩
                    exact ⟨a1, h3.2 ⟨h4, a3⟩, a2⟩
                  · rintro ⟨a1, a2, a3⟩
                    exact ⟨⟨a1, a3⟩, by rw [a2]⟩
                · rw [pcellsT_snoc, List.length_append, hlen3]
                  exact HA.out.own
                · rcases List.mem_append.1 he with he | he
                  · rcases List.mem_append.1 he with he | he
                    · exact HM.out.ts e (List.mem_append_left _ he)
                    · simp only [List.mem_singleton] at he
                      subst he
                      exact ⟨HT1.out, HT3.out⟩
                  · simp only [List.mem_singleton] at he
                    subst he
                    exact ⟨id HNX1.out, id HNX3.out⟩
                · rcases List.mem_append.1 he with he | he
                  · rcases List.mem_append.1 he with he | he
                    · exact HM.out.q e (List.mem_append_left _ he)
                    · simp only [List.mem_singleton] at he
                      subst he
                      exact HQS.out
                  · simp only [List.mem_singleton] at he
                    subst he
                    exact HQ.out x HQX.out
              case measure =>
                rw [ploadT_snoc, ploadT_snoc, ploadT_snoc, List.length_append, List.length_singleton]
                have h2 := Ty.nodes_eq x
                simp only [nodesS]
                omega
      · have HN := Lib.hid (fun (e : t = u) => hl (by have := HI.out.2 e (xs, .slice p1 xs.length c1, ys, .slice p3 ys.length c3) (by simp); simp only at this; rw [this]))
        have HB := Lib.hid (HB0.out.trans (HM.out.below.mono HB0.out.size))
        go_wp2_with fail
        go_ret
        exact ⟨false, by simpa using HN.out, rfl, HB.out.drew⟩
#print axioms eqTreesT_any
end Go.Proofs.Ytjobmgbchpoheaa

