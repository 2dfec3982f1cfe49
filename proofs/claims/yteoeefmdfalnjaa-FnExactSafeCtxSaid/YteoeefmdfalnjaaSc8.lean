/-
  Several texts of the proof in one (each says below what it holds): Aid NodesT LoopW GrowA GrowE.
-/
import Derived.Test.YteoeefmdfalnjaaSc7
import Derived.Test.YteoeefmdfalnjaaSc2
import Derived.RangeFuncNested
import Derived.RangeFuncBound
import Derived.RangeFuncCalls
import Derived.Shelf.Abstract
import Derived.IntWalk
import Derived.Shelf.RegionOpen
import Derived.WalkKit
import Derived.TacticsInMore
import Derived.LoopNIn
import Derived.LoopIn
import Derived.Sort.LoopGhostIn
import Derived.Deep.LoopGhost
import Derived.Deep.CutRange
import Derived.Deep.RegionHeldLaw
import Derived.Lib.SmallJoins
/- Aid: Small facts that many texts use: lists, numbers that stay in their range, cells that an append keeps. Of no program. -/
namespace Go.Proofs.Yteoeefmdfalnjaa
open Go Go.RowKit

theorem snoc_cases {α : Type} (l : List α) : l = [] ∨ ∃ l0 e, l = l0 ++ [e] := by
  rcases List.eq_nil_or_concat l with h | ⟨l0, e, h⟩
  · exact Or.inl h
  · exact Or.inr ⟨l0, e, by rw [h, List.concat_eq_append]⟩
theorem wrap_in (n : Nat) (h : n ≤ 9223372036854775807) : IntKind.i64.wrap (n : Int) = n := IntWalk.i64_in _ (by omega)
theorem wrap64_nat (n : Nat) (h : n ≤ 9223372036854775807) : wrap64 (n : Int) = n := by
  unfold wrap64
  omega

theorem keepApp {w0 w' : World} {base : Nat} {e : TypeId} {size n : Nat} {v : Value} {xs cs : List Value} {g cap : Nat} (hA : Appd w0 w' base e size v n xs cs g cap) {p : Addr} {u : Value} (h : w0.cell? p = some u) (hne : v.ownBlock ≠ some p.block) : w'.cell? p = some u :=
  (World.cell?_of_block (hA.kept p.block (World.block_lt_of_cell? w0 _ h) hne).1).trans h

theorem two_blk0 (w : World) (A B : Array Value) (tA tB : TypeId) : ((w.alloc (.cells A tA)).alloc (.cells B tB)).drew.heap[w.heap.size]? = some (.cells A tA (0, 0)) := by
  show ((w.alloc (.cells A tA)).alloc (.cells B tB)).heap[w.heap.size]? = _
  rw [Below.heap_alloc _ _ _ (by simp)]
  exact blk_new _ _
theorem two_blk1 (w : World) (A B : Array Value) (tA tB : TypeId) : ((w.alloc (.cells A tA)).alloc (.cells B tB)).drew.heap[w.heap.size + 1]? = some (.cells B tB (0, 0)) := by
  show ((w.alloc (.cells A tA)).alloc (.cells B tB)).heap[w.heap.size + 1]? = _
  have := blk_new (w.alloc (.cells A tA)) (.cells B tB)
  rwa [World.size_alloc] at this

end Go.Proofs.Yteoeefmdfalnjaa
/- NodesT: The program's iterator over the nodes of a type: each node with its depth, a node before its parts, these in order (gennodes.py writes this text). -/
namespace Go.Proofs.Yteoeefmdfalnjaa
open Go Go.RowKit Go.Shelf
attribute [local go_sem] Oper.semAt_some

abbrev LT (w : World) (C : Nat → Prop) (l : List Ty) (v : Value) : Prop := TS w C l v
abbrev NT (w : World) (C : Nat → Prop) (t : Ty) (v : Value) : Prop := TT w C t v
/-- The two cells of one type, in a world. -/
structure At2 (w : World) (b o : Nat) (t : Ty) (p : Option Addr) (c : Nat) : Prop where
  kind : w.cell? ⟨b, o, none⟩ = some (.int .i64 t.kind)
  args : w.cell? ⟨b, o + 1, none⟩ = some (.slice p t.args.length c)
theorem ntT_mk {w : World} {C : Nat → Prop} {t : Ty} {p : Option Addr} {c : Nat} (h : TS w C t.args (.slice p t.args.length c)) : NT w C t (.agg #[.int .i64 t.kind, .slice p t.args.length c]) := ⟨_, rfl, h⟩
abbrev TS' (w : World) (C : Nat → Prop) (t : Ty) (p : Option Addr) (c : Nat) : Prop := TS w C t.args (.slice p t.args.length c)

mutual
/-- The nodes in the order of the visit. -/
def walkT : Ty → Nat → List (Ty × Nat)
  | .mk k ts, d => (.mk k ts, d) :: walkST ts (d + 1)
def walkST : List Ty → Nat → List (Ty × Nat)
  | [], _ => []
  | t :: ts, d => walkT t d ++ walkST ts d
end
theorem walkT_eq (t : Ty) (d : Nat) : walkT t d = (t, d) :: walkST t.args (d + 1) := by cases t; rfl
theorem walkST_one (t : Ty) (d : Nat) : walkST [t] d = walkT t d := by simp [walkST]
mutual
theorem walkT_length : ∀ (t : Ty) (d : Nat), (walkT t d).length = t.nodes
  | .mk k ts, d => by simp only [walkT, List.length_cons, walkST_length ts, Ty.nodes]; omega
theorem walkST_length : ∀ (ts : List Ty) (d : Nat), (walkST ts d).length = nodesS ts
  | [], d => by simp [walkST, nodesS]
  | t :: ts, d => by simp only [walkST, List.length_append, walkST_length ts, walkT_length t, nodesS]
end
/-- What waits, the next list last: a list, its slice's value. -/
abbrev WaitT := List (List Ty × Value)
def rWT : WaitT → List (Ty × Nat)
  | [] => []
  | e :: r => walkST e.1 (r.length + 1) ++ rWT r
def stWalkT (st : WaitT) : List (Ty × Nat) := rWT st.reverse
theorem stWalkT_snoc (st : WaitT) (e : List Ty × Value) : stWalkT (st ++ [e]) = walkST e.1 (st.length + 1) ++ stWalkT st := by simp [stWalkT, rWT]
theorem stWalkT_nil : stWalkT [] = [] := rfl

theorem wsndT_last (st : WaitT) (e : List Ty × Value) : ((st ++ [e]).map (·.2))[st.length]? = some e.2 := by simp
theorem wsndT_take (st : WaitT) (e : List Ty × Value) : ((st ++ [e]).map (·.2)).take (st.length * 1) = st.map (·.2) := by simp
theorem wsndT_set (st : WaitT) (e : List Ty × Value) (l : List Ty) (u : Value) : ((st ++ [e]).map (·.2)).set st.length u = (st ++ [(l, u)]).map (·.2) := by
  simp

theorem infoLT : (Try.prog.info? 39).map (fun i => (i.zero, i.size, i.bytes)) = some (some (.slice none 0 0), 1, 24) := by kernel_rfl

/-- What the iterator knows between two rounds. -/
structure MidT (W wr : World) (C : Nat → Prop) (t : Ty) (p : Option Addr) (c : Nat) (J : List (Ty × Nat) → World → Prop) (pre : List (Ty × Nat)) (st : WaitT) (g cap : Nat) : Prop where
  own : wr.ownsRow (W.heap.size + 1) 39 1 (.slice (some ⟨g, 0, none⟩) st.length cap) st.length (st.map (·.2))
  j : J pre wr
  ts : ∀ e ∈ st, LT W C e.1 e.2 ∨ e = ([t], .slice (some ⟨W.heap.size, 0, none⟩) 1 1)
  stays : Stays C W wr
  size : W.heap.size ≤ wr.heap.size
  root : wr.heap[W.heap.size]? = some (.cells #[.int .i64 t.kind, .slice p t.args.length c] 41 (0, 0))
  node : TS' W C t p c
  cnt : st.length ≤ pre.length + 1

theorem MidT.lt {W wr : World} {C : Nat → Prop} {t : Ty} {p : Option Addr} {c : Nat} {J : List (Ty × Nat) → World → Prop} {pre : List (Ty × Nat)} {st : WaitT} {g cap : Nat} (h : MidT W wr C t p c J pre st g cap) : W.heap.size < wr.heap.size := (Array.getElem?_eq_some_iff.1 h.root).1

/-- The next list's first node: where it lies; the list without it. -/
theorem MidT.open {W wr : World} {C : Nat → Prop} {t : Ty} {p : Option Addr} {c : Nat} {J : List (Ty × Nat) → World → Prop} {pre : List (Ty × Nat)} {st : WaitT} {g cap : Nat} {x : Ty} {l : List Ty} {v : Value} (h : MidT W wr C t p c J pre (st ++ [(x :: l, v)]) g cap) :
    ∃ (b o c : Nat) (p' : Option Addr) (c' : Nat), v = .slice (some ⟨b, o, none⟩) (l.length + 1) c ∧ l.length + 1 ≤ c ∧ c ≤ 9223372036854775807 ∧ (C b ∨ b = W.heap.size) ∧ b < wr.heap.size ∧
      At2 wr b o x p' c' ∧ TS' W C x p' c' ∧ ∀ q, (l ≠ [] → q = some ⟨b, o + 2, none⟩) → LT W C l (.slice q l.length (c - 1)) := by
  rcases h.ts (x :: l, v) (by simp) with hT | he
  · simp only at hT
    cases hT with
    | @cons _ b o c S h1 hc hm hC hb hk hs hr =>
      obtain ⟨p', c', hf⟩ := (hr 0 x rfl).form
      have e0 := hk 0 x rfl
      have e1 := hs 0 x rfl
      rw [Nat.zero_mul, Nat.add_zero] at e0 e1
      rw [hf] at e1
      have hkeep : ∀ i u, W.cell? ⟨b, i, none⟩ = some u → wr.cell? ⟨b, i, none⟩ = some u := fun i u hu => (World.cell?_of_block (w := W) (a := ⟨b, i, none⟩) (h.stays.2 b hC hb)).trans hu
      refine ⟨b, o, c, p', c', rfl, hc, hm, Or.inl hC, Nat.lt_of_lt_of_le hb h.size, ⟨hkeep _ _ e0, hkeep _ _ e1⟩, (by show TS W C x.args _; rw [← hf]; exact hr 0 x rfl), fun q hq => ?_⟩
      by_cases hl : l = []
      · subst hl; exact .nil _ _
      · rw [hq hl]
        have hl1 : 1 ≤ l.length := by cases l with | nil => exact absurd rfl hl | cons => simp
        refine .cons (fun j => S (j + 1)) hl1 (by simp only [List.length_cons] at hc; omega) (by omega) hC hb (fun j y hj => ?_) (fun j y hj => ?_) (fun j y hj => hr (j + 1) y (by simpa using hj))
        · have := hk (j + 1) y (by simpa using hj)
          rw [show o + (j + 1) * 2 = o + 2 + j * 2 by omega] at this; exact this
        · have := hs (j + 1) y (by simpa using hj)
          rw [show o + (j + 1) * 2 = o + 2 + j * 2 by omega] at this; exact this
  · simp only [Prod.mk.injEq, List.cons.injEq] at he
    obtain ⟨⟨rfl, rfl⟩, rfl⟩ := he
    refine ⟨W.heap.size, 0, 1, p, c, rfl, by simp, by omega, Or.inr rfl, h.lt, ?_, h.node, fun q hq => ?_⟩
    · have hr := h.root
      exact ⟨cell_of_blk hr 0, cell_of_blk hr 1⟩
    · exact .nil _ _

theorem argsT_any (k : Int) (p : Option Addr) (n c : Nat) (w : World) : Calls Try.prog 43 #[.agg #[.int .i64 k, .slice p n c]] w fun e w' => e = .returned (.slice p n c) ∧ Below w.heap.size w w' := by
  go_enter Try.func43, Try.ntmps43
  go_wp2
  go_ret
  exact ⟨rfl, (Below.refl _ _).alloc (Nat.le_refl _) _⟩

set_option maxRecDepth 100000 in
set_option maxHeartbeats 4000000 in
theorem nodesT_it (l Bt Bp : Nat) (t : Ty) (p : Option Addr) (c : Nat) (Cb C : Nat → Prop) (W : World) (J Jx : List (Ty × Nat) → World → Prop)
    (hBt : W.heap[Bt]? = some (.cells #[.int .i64 t.kind, .slice p t.args.length c] 41 (0, 0))) (hBp : W.heap[Bp]? = some (.cells #[.func (.func 43) #[] #[]] 67 (0, 0))) (hT : TS' W C t p c) (hn : t.nodes ≤ 2097153)
    (hCb : ∀ b, Cb b → b < W.heap.size) (hC : ∀ b, C b → ¬ Cb b ∧ b < W.heap.size) (hCp : C Bp)
    (hJ : ∀ pre A B, J pre A → Below W.heap.size A B → J pre B)
    (hY : ∀ pre x v d W1, J pre W1 → pre ++ [(x, d)] <+: walkT t 1 → NT W1 C x v → YieldAt Fence.wide 0 Try.prog l #[v, .int .i64 (d : Nat)] W1 fun e W' =>
      (e = .returned (.bool true) ∧ J (pre ++ [(x, d)]) W' ∧ Holds Cb W1 W') ∨ (e = .returned (.bool false) ∧ Jx (pre ++ [(x, d)]) W'))
    (h0 : J [] W) :
    CallsIn Fence.wide 1 Try.prog 50 #[.func (.yield l) #[] #[], .pointer (some ⟨Bt, 0, none⟩), .pointer (some ⟨Bp, 0, none⟩)] W fun e W' =>
      (∃ v, e = .returned v) ∧ (J (walkT t 1) W' ∨ ∃ pre, pre <+: walkT t 1 ∧ Jx pre W') := by
  obtain ⟨i0, hi, hz0, hz1, hz2⟩ := info_parts infoLT
  have HT := Lib.hid hT
  have HY := Lib.hid hY
  have HJ := Lib.hid hJ
  have HJ0 := Lib.hid h0
  have HCb := Lib.hid hCb
  have HC := Lib.hid hC
  have HCP := Lib.hid hCp
  have HBP := Lib.hid hBp
  have HN := Lib.hid hn
  have k0 := cell_of_blk hBt 0
  have k1 := cell_of_blk hBt 1
  have kp := cell_of_blk hBp 0
  simp only [List.getElem?_toArray, List.getElem?_cons_zero, List.getElem?_cons_succ] at k0 k1 kp
  clear hT hY hJ h0 hCb hC hBt hBp hn
  refine callsIn_of_wp Try.func50 rfl trivial ?_ rfl
  simp only [Try.ntmps50, List.size_toArray, List.length_cons, List.length_nil, Nat.reduceAdd, Nat.reduceSub, Array.replicate_succ, Array.replicate_zero, List.push_toArray, List.append_toArray, List.nil_append, List.cons_append]
  gi_wp2_with fail
  gi_loopg [4] (2 * (walkT t 1).length + 1) (fun k v wr => ∃ (pre : List (Ty × Nat)) (st : WaitT) (g cap : Nat), v = .slice (some ⟨g, 0, none⟩) st.length cap ∧ k = 2 * (stWalkT st).length + st.length ∧ pre ++ stWalkT st = walkT t 1 ∧ MidT W wr C t p c J pre st g cap)
  case atStart =>
    refine ⟨[], [([t], .slice (some ⟨W.heap.size, 0, none⟩) 1 1)], W.heap.size + 1, 1, rfl, by simp [stWalkT, rWT, walkST_one], by simp [stWalkT, rWT, walkST_one], ?_⟩
    have hb : Below W.heap.size W ((W.alloc (.cells #[.int .i64 t.kind, .slice p t.args.length c] 41)).alloc (.cells #[.slice (some ⟨W.heap.size, 0, none⟩) 1 1] 39)) := ((Below.refl _ W).alloc (Nat.le_refl _) _).alloc (by simp) _
    refine ⟨?_, HJ.out _ _ _ HJ0.out hb, ?_, .of_below hb, hb.size, ?_, HT.out, by simp⟩
    · have h1 := World.ownsRow_lit (base := W.heap.size + 1) (e := 39) (size := 1) (W.alloc (.cells #[.int .i64 t.kind, .slice p t.args.length c] 41)) #[.slice (some ⟨W.heap.size, 0, none⟩) 1 1] 1 (by simp) (by unfold maxLen; omega) rfl
      rw [show (W.alloc (.cells #[.int .i64 t.kind, .slice p t.args.length c] 41)).heap.size = W.heap.size + 1 by simp] at h1
      exact h1
    · intro e he
      simp only [List.mem_singleton] at he
      exact Or.inr he
    · rw [Below.heap_alloc _ _ _ (by simp)]
      exact blk_new _ _
  case round =>
    rename World => wo
    obtain ⟨pre, st, g, cap, rfl, rfl, hord, hM⟩ := hrel
    rcases snoc_cases st with rfl | ⟨st0, ⟨ls, sl⟩, rfl⟩
    · have HM := Lib.hid hM
      have HO := Lib.hid hord
      clear hM hord
      gi_wp2
      go_end0
      have hp : pre = walkT t 1 := by have := HO.out; simpa [stWalkT, rWT] using this
      exact ⟨⟨_, rfl⟩, .inl (hp ▸ HM.out.j)⟩
    · have hlen : (st0 ++ [((ls, sl) : List Ty × Value)]).length = st0.length + 1 := by simp
      have hown := hM.own
      rw [hlen] at hown
      rw [hlen]
      obtain ⟨hcap1, hcap2, hg1, hg2⟩ := row_cap hown
      have k0 := (hown.cellAt st0.length (by omega)).trans (wsndT_last st0 _)
      have kz := hown.frozenAt st0.length
      simp only at k0
      unfold maxLen at hcap2
      have i0' : (0 : Int) ≤ (st0.length : Int) := Int.natCast_nonneg _
      have i1' : (st0.length : Int) < ((st0.length : Int) + 1) := by omega
      have hcnt : st0.length ≤ 2097153 := by
        have h1 := hM.cnt
        have h2 := congrArg List.length hord
        have h3 := HN.out
        rw [List.length_append, walkT_length] at h2
        rw [hlen] at h1
        omega
      cases ls with
      | nil =>
        have HM := Lib.hid hM
        have HO := Lib.hid hord
        have HOWN := Lib.hid hown
        obtain ⟨a, c0, hsl⟩ : ∃ a c, sl = .slice a 0 c := by
          rcases hM.ts ([], sl) (by simp) with h1 | h1
          · exact h1.form
          · simp at h1
        subst hsl
        clear hM hord hown
        gi_wp2_with fail
        go_roundg (2 * (stWalkT st0).length + st0.length)
        case rel =>
          have h1 := row_take HOWN.out (Nat.le_succ st0.length)
          rw [wsndT_take] at h1
          refine ⟨pre, st0, g, cap, rfl, rfl, by have := HO.out; rwa [stWalkT_snoc] at this, h1, HM.out.j, fun e he => HM.out.ts e (List.mem_append_left _ he), HM.out.stays, HM.out.size, HM.out.root, HM.out.node, ?_⟩
          have := HM.out.cnt
          rw [List.length_append] at this
          omega
        case measure =>
          rw [stWalkT_snoc, List.length_append, List.length_append]
          simp only [walkST, List.length_nil, List.length_singleton]
          omega
      | cons x ls =>
        obtain ⟨b, o, c0, p', c', rfl, hlc, hc63, hbC, hbw, hcell, hnx, htail⟩ := hM.open
        have hbg : b ≠ g := by
          have h1 := hg1
          rcases hbC with h2 | h2
          · have := (HC.out b h2).2
            omega
          · omega
        obtain ⟨q, hq⟩ : ∃ q, (if c0 = 1 then some (⟨b, o, none⟩ : Addr) else some ⟨b, o + 2, none⟩) = q := ⟨_, rfl⟩
        have htl : LT W C ls (.slice q ls.length (c0 - 1)) := htail q (fun hne => by
          have h1 : 1 ≤ ls.length := by cases ls with | nil => exact absurd rfl hne | cons => simp
          rw [← hq, if_neg (by omega)])
        obtain ⟨hst, hgr⟩ := hown.stored st0.length (.slice q ls.length (c0 - 1))
        rw [wsndT_set st0 _ ls] at hst
        have hb1 : Below (W.heap.size + 1) wo (wo.setCell ⟨g, st0.length, none⟩ (.slice q ls.length (c0 - 1))) := (Below.refl _ wo).setCell (p := ⟨g, st0.length, none⟩) hg1 _
        have hcC : ∀ z, C z → z < W.heap.size := fun z hz => (HC.out z hz).2
        have hst1 : Stays C W (wo.setCell ⟨g, st0.length, none⟩ (.slice q ls.length (c0 - 1))) := hM.stays.trans ⟨hb1.size, fun z hz _ => hb1.block z (by have := hcC z hz; omega)⟩
        have hpre : pre ++ [(x, st0.length + 1)] <+: walkT t 1 := ⟨walkST x.args (st0.length + 1 + 1) ++ (walkST ls (st0.length + 1) ++ stWalkT st0), by rw [← hord, stWalkT_snoc]; simp only [walkST, walkT_eq, List.cons_append, List.append_assoc, List.nil_append]⟩
        obtain ⟨fn, tmps, assign, body, hy, hR⟩ := HY.out pre x (.agg #[.int .i64 x.kind, .slice p' x.args.length c']) (st0.length + 1) _ (HJ.out _ _ _ hM.j (hb1.mono (by omega))) hpre (ntT_mk (hnx.stays hst1))
        rw [show ((st0.length + 1 : Nat) : Int) = (st0.length : Int) + 1 from rfl] at hy
        have hroot : (wo.setCell ⟨g, st0.length, none⟩ (.slice q ls.length (c0 - 1))).heap[W.heap.size]? = some (.cells #[.int .i64 t.kind, .slice p t.args.length c] 41 (0, 0)) := (hb1.block _ (by omega)).trans hM.root
        have HM := Lib.hid hM
        have HO := Lib.hid hord
        have HST := Lib.hid hst
        have HB1 := Lib.hid hb1
        have HST1 := Lib.hid hst1
        have HPRE := Lib.hid hpre
        have HR := Lib.hid hR
        have HTL := Lib.hid htl
        have HNX := Lib.hid hnx
        have HBC := Lib.hid hbC
        have HROOT := Lib.hid hroot
        have HQ := Lib.hid hlc
        obtain ⟨f0, f1⟩ := hcell
        have hl1 : (1 : Int) ≤ ((ls.length : Int) + 1) := by omega
        clear hM hord hown hst hgr hb1 hst1 hpre hR htl htail hnx hbC hcC hroot
        gi_wp2_with fail
        refine HR.out.mono ?_
        rintro e W3 (⟨rfl, hJ3, hH3⟩ | ⟨rfl, hJx3⟩)
        · have hbnC : ¬ Cb b := by
            rcases HBC.out with h1 | h1
            · exact (HC.out b h1).1
            · intro hc; have := HCb.out b hc; omega
          have hgnC : ¬ Cb g := fun hc => by have := HCb.out g hc; omega
          have hs1 := HB1.out.size
          have hb3 : W3.heap[b]? = wo.heap[b]? := (hH3.2 b (by omega) hbnC).trans (Below.heap_setCell _ _ _ _ hbg)
          have hp3 : W3.heap[Bp]? = W.heap[Bp]? := by
            have h1 := HC.out Bp hCp
            have h2 := HM.out.size
            rw [hH3.2 Bp (by omega) h1.1]
            exact HST1.out.2 Bp hCp h1.2
          have hown3 := row_of_block HST.out (hH3.2 g (by omega) hgnC)
          have hr3 : W3.heap[W.heap.size]? = some (.cells #[.int .i64 t.kind, .slice p t.args.length c] 41 (0, 0)) := by
            rw [hH3.2 W.heap.size (by have := HM.out.lt; omega) (fun hc => by have := HCb.out _ hc; omega)]
            exact HROOT.out
          have hlen3 : (st0 ++ [(ls, Value.slice q ls.length (c0 - 1))]).length = st0.length + 1 := by simp
          have hM3 : MidT W W3 C t p c J (pre ++ [(x, st0.length + 1)]) (st0 ++ [(ls, .slice q ls.length (c0 - 1))]) g cap := by
            refine ⟨?_, hJ3, fun e he => ?_, HST1.out.trans ⟨hH3.1, fun z hz hl => hH3.2 z hl (HC.out z hz).1⟩, ?_, hr3, HM.out.node, ?_⟩
            · rw [hlen3]; exact hown3
            · rcases List.mem_append.1 he with he | he
              · exact HM.out.ts e (List.mem_append_left _ he)
              · simp only [List.mem_singleton] at he
                subst he
                exact Or.inl HTL.out
            · have := hH3.1
              have := HM.out.size
              omega
            · have := HM.out.cnt
              rw [hlen] at this
              rw [hlen3, List.length_append, List.length_singleton]
              omega
          have g0 := (World.cell?_of_block (a := ⟨b, o, none⟩) hb3).trans f0
          have g1 := (World.cell?_of_block (a := ⟨b, o + 1, none⟩) hb3).trans f1
          have kp3 := cell_of_blk (hp3.trans HBP.out) 0
          simp only [List.getElem?_toArray, List.getElem?_cons_zero] at kp3
          have HM3 := Lib.hid hM3
          have HOWN3 := Lib.hid hown3
          have hsz3 := hM3.lt
          clear hJ3 hH3 hown3 hM3 hy HR k0 kz hb3 hp3 hr3 hbnC hgnC f0 f1 HB1 HST1 HST
          gi_wp2_with fail
          refine wpIn_wide.2 ?_
          go_region_law (first
            | (refine step_app1 (w0 := w1) (base := W.heap.size + 1) (v := .slice (some ⟨g, 0, none⟩) (st0.length + 1) cap) (n := st0.length + 1) (xs := (st0 ++ [(ls, Value.slice q ls.length (c0 - 1))]).map (·.2)) (cs := [.slice p' x.args.length c']) rfl (.tmp 40) (.tmp 46) rfl Try.underlying87 hi hz0 hz1 hz2 rfl (by decide) rfl (row_below HOWN3.out ((Below.refl W3.heap.size W3).drew.trans hb1)) _ rfl (by simp) rfl (fun u hu => by simp at hu; subst hu; rfl) (by unfold maxLen; omega) (by omega) (by have := hb1.size; simp at this; omega) ?_; intro w' g2 cap2 hA)
            | (go_simp; go_at_call 43; refine (argsT_any _ _ _ _ _).mono ?_; rintro e w1 ⟨rfl, hb1⟩))
          all_goals
            have HA := Lib.hid hA
            have HB := Lib.hid hb1
            clear hA hb1
            gi_wp2_with fail
            go_roundg (2 * (stWalkT ((st0 ++ [(ls, Value.slice q ls.length (c0 - 1))]) ++ [(x.args, .slice p' x.args.length c')])).length + (st0.length + 2))
            case rel =>
              have hb3 : Below W3.heap.size W3 w1 := (Below.refl W3.heap.size W3).drew.trans HB.out
              have hlen3 : (st0 ++ [(ls, Value.slice q ls.length (c0 - 1))]).length = st0.length + 1 := by simp
              have hg3 := (row_cap HOWN3.out).2.2
              have hs3 := hb3.size
              have hbw : Below (W.heap.size + 1) W3 w' := (hb3.mono (by omega)).trans HA.out.below
              refine ⟨pre ++ [(x, st0.length + 1)], (st0 ++ [(ls, .slice q ls.length (c0 - 1))]) ++ [(x.args, .slice p' x.args.length c')], g2, cap2, by rw [List.length_append, hlen3]; rfl, by rw [List.length_append, hlen3]; rfl, ?_, ?_⟩
              · rw [stWalkT_snoc, hlen3, stWalkT_snoc, ← HO.out, stWalkT_snoc]
                simp only [walkST, walkT_eq, List.cons_append, List.append_assoc, List.nil_append]
              · refine ⟨?_, HJ.out _ _ _ HM3.out.j (hbw.mono (by omega)), fun e he => ?_, HM3.out.stays.trans ⟨hbw.size, fun z hz _ => hbw.block z (by have := (HC.out z hz).2; omega)⟩, by have := hbw.size; have := HM3.out.size; omega, (hbw.block _ (by omega)).trans HM3.out.root, HM3.out.node, ?_⟩
                · rw [List.map_append, List.length_append, hlen3]
                  exact HA.out.own
                · rcases List.mem_append.1 he with he | he
                  · exact HM3.out.ts e he
                  · simp only [List.mem_singleton] at he
                    subst he
                    exact Or.inl (id HNX.out)
                · have := HM.out.cnt
                  rw [hlen] at this
                  simp only [List.length_append, List.length_cons, List.length_nil]
                  omega
            case measure =>
              have h1 := HO.out
              simp only [stWalkT_snoc, walkST, walkT_eq, List.length_append, List.length_cons, List.length_nil, Nat.zero_add]
              omega
        · gi_wp2_with fail
          refine bodyPost_ret (results_none rfl _ _ _) rfl ?_
          exact ⟨⟨_, rfl⟩, .inr ⟨pre ++ [(x, st0.length + 1)], HPRE.out, hJx3⟩⟩
#print axioms nodesT_it
end Go.Proofs.Yteoeefmdfalnjaa
/- LoopW: Worlds with one, two, three boxes more; what the box of a loop's number says. Of no program. -/
namespace Go.Proofs.Yteoeefmdfalnjaa
open Go Go.RowKit

theorem box_new (w : World) (A : Array Value) (T : TypeId) : ∃ wl : World, w.alloc (.cells A T) = wl ∧ wl.heap.size = w.heap.size + 1 ∧ Below w.heap.size w wl ∧ wl.heap[w.heap.size]? = some (.cells A T (0, 0)) :=
  ⟨_, rfl, by simp, (Below.refl _ w).alloc (Nat.le_refl _) _, blk_new _ _⟩
theorem box_new2 (w : World) (A B : Array Value) (tA tB : TypeId) : ∃ wl : World, (w.alloc (.cells A tA)).alloc (.cells B tB) = wl ∧ wl.heap.size = w.heap.size + 2 ∧ Below w.heap.size w wl ∧
    wl.heap[w.heap.size]? = some (.cells A tA (0, 0)) ∧ wl.heap[w.heap.size + 1]? = some (.cells B tB (0, 0)) := by
  have s1 : (w.alloc (.cells A tA)).heap.size = w.heap.size + 1 := by simp
  refine ⟨_, rfl, by simp, ((Below.refl _ w).alloc (Nat.le_refl _) _).alloc (by simp) _, ?_, ?_⟩
  · rw [Below.heap_alloc _ _ _ (by simp)]
    exact blk_new _ _
  · rw [← s1]
    exact blk_new _ _
theorem box_new3 (w : World) (A B D : Array Value) (tA tB tD : TypeId) : ∃ wl : World, ((w.alloc (.cells A tA)).alloc (.cells B tB)).alloc (.cells D tD) = wl ∧ wl.heap.size = w.heap.size + 3 ∧ Below w.heap.size w wl ∧
    wl.heap[w.heap.size]? = some (.cells A tA (0, 0)) ∧ wl.heap[w.heap.size + 1]? = some (.cells B tB (0, 0)) ∧ wl.heap[w.heap.size + 1 + 1]? = some (.cells D tD (0, 0)) := by
  have s1 : (w.alloc (.cells A tA)).heap.size = w.heap.size + 1 := by simp
  have s2 : ((w.alloc (.cells A tA)).alloc (.cells B tB)).heap.size = w.heap.size + 1 + 1 := by simp
  refine ⟨_, rfl, by simp, (((Below.refl _ w).alloc (Nat.le_refl _) _).alloc (by simp) _).alloc (by simp; omega) _, ?_, ?_, ?_⟩
  · rw [Below.heap_alloc _ _ _ (by simp; omega), Below.heap_alloc _ _ _ (by simp)]
    exact blk_new _ _
  · rw [Below.heap_alloc _ _ _ (by simp), ← s1]
    exact blk_new _ _
  · rw [← s2]
    exact blk_new _ _
theorem box_new4 (w : World) (A B D E : Array Value) (tA tB tD tE : TypeId) : ∃ wl : World, (((w.alloc (.cells A tA)).alloc (.cells B tB)).alloc (.cells D tD)).alloc (.cells E tE) = wl ∧ wl.heap.size = w.heap.size + 4 ∧ Below w.heap.size w wl ∧
    wl.heap[w.heap.size]? = some (.cells A tA (0, 0)) ∧ wl.heap[w.heap.size + 1]? = some (.cells B tB (0, 0)) ∧ wl.heap[w.heap.size + 1 + 1]? = some (.cells D tD (0, 0)) ∧ wl.heap[w.heap.size + 1 + 1 + 1]? = some (.cells E tE (0, 0)) := by
  obtain ⟨w3, h3, hs3, hb3, k0, k1⟩ := box_new2 w A B tA tB
  obtain ⟨w5, h5, hs5, hb5, k3, k4⟩ := box_new2 w3 D E tD tE
  refine ⟨w5, by rw [h3]; exact h5, by omega, hb3.trans (hb5.mono (by omega)), (hb5.block _ (by omega)).trans k0, (hb5.block _ (by omega)).trans k1, ?_, ?_⟩
  · rw [hs3] at k3; exact k3
  · rw [hs3] at k4; exact k4
theorem box_new5 (w : World) (A B D E F : Array Value) (tA tB tD tE tF : TypeId) : ∃ wl : World, ((((w.alloc (.cells A tA)).alloc (.cells B tB)).alloc (.cells D tD)).alloc (.cells E tE)).alloc (.cells F tF) = wl ∧ wl.heap.size = w.heap.size + 5 ∧ Below w.heap.size w wl ∧
    wl.heap[w.heap.size]? = some (.cells A tA (0, 0)) ∧ wl.heap[w.heap.size + 1]? = some (.cells B tB (0, 0)) ∧ wl.heap[w.heap.size + 1 + 1]? = some (.cells D tD (0, 0)) ∧ wl.heap[w.heap.size + 1 + 1 + 1]? = some (.cells E tE (0, 0)) ∧ wl.heap[w.heap.size + 1 + 1 + 1 + 1]? = some (.cells F tF (0, 0)) := by
  obtain ⟨w3, h3, hs3, hb3, k0, k1, k2⟩ := box_new3 w A B D tA tB tD
  obtain ⟨w5, h5, hs5, hb5, k3, k4⟩ := box_new2 w3 E F tE tF
  refine ⟨w5, by rw [h3]; exact h5, by omega, hb3.trans (hb5.mono (by omega)), (hb5.block _ (by omega)).trans k0, (hb5.block _ (by omega)).trans k1, (hb5.block _ (by omega)).trans k2, ?_, ?_⟩
  · rw [hs3] at k3; exact k3
  · rw [hs3] at k4; exact k4
end Go.Proofs.Yteoeefmdfalnjaa
/- GrowA: The contracts of the program's copyTypeNode and of what EraseType does at a node. -/
namespace Go.Proofs.Yteoeefmdfalnjaa
open Go Go.RowKit

/-- A new row of n places (or none). -/
def Part (W W' : World) (n : Nat) (s' : Value) : Prop := (n = 0 ∧ s' = .slice none 0 0) ∨
  ∃ (b' cc : Nat) (K : Nat → Int) (S : Nat → Value), s' = .slice (some ⟨b', 0, none⟩) n cc ∧ W.heap.size ≤ b' ∧ cc ≤ maxLen ∧ Row W' b' n cc K S
theorem Part.below {W W' W'' : World} {n : Nat} {s' : Value} (h : Part W W' n s') (hb : Below W'.heap.size W' W'') : Part W W'' n s' := by
  rcases h with h | ⟨b', cc, K, S, h1, h2, h3, h4⟩
  · exact Or.inl h
  · exact Or.inr ⟨b', cc, K, S, h1, h2, h3, h4.below hb⟩
theorem Part.base {W W0 W' : World} {n : Nat} {s' : Value} (h : Part W W' n s') (hb : W0.heap.size ≤ W.heap.size) : Part W0 W' n s' := by
  rcases h with h | ⟨b', cc, K, S, h1, h2, h3, h4⟩
  · exact Or.inl h
  · exact Or.inr ⟨b', cc, K, S, h1, Nat.le_trans hb h2, h3, h4⟩
theorem app_empty (p : Option Addr) (c : Nat) (w : World) (ty : TypeId) : (Builtin.append_ #[39, 39] ty #[.slice none 0 0, .slice p 0 c]).run Try.prog w = .ok (.slice none 0 0) w := by
  cases p <;> simp [Builtin.append_, go_sem]
/-- An append of types to no row: a new row with just these. -/
theorem app_types {C : Nat → Prop} {ts : List Ty} {p : Option Addr} {c : Nat} {w : World} (h : TS w C ts (.slice p ts.length c)) (hn : ts.length ≤ 2097152) (ty : TypeId) :
    ∃ s' w', (Builtin.append_ #[39, 39] ty #[.slice none 0 0, .slice p ts.length c]).run Try.prog w = .ok s' w' ∧ Part w w' ts.length s' ∧ Below w.heap.size w w' := by
  by_cases h0 : ts.length = 0
  · rw [h0]
    exact ⟨_, _, app_empty p c w ty, Or.inl ⟨rfl, rfl⟩, Below.refl _ _⟩
  obtain ⟨j0, hj, hy0, hy1, hy2⟩ := info_parts infoTy
  obtain ⟨b, o, p0, c0, rfl, -, -⟩ := h.at 0 ts[0] (List.getElem?_eq_getElem (by omega))
  have hex : ∀ j, ∃ V : Value, j < ts.length → w.cell? ⟨b, o + j * 2, none⟩ = some (.int .i64 (ts[j]?.getD (.mk 0 [])).kind) ∧ w.cell? ⟨b, o + j * 2 + 1, none⟩ = some V ∧ V.oneCell' = true := fun j => by
    by_cases hj2 : j < ts.length
    · obtain ⟨b', o', p', c', hq, hc, _⟩ := h.at j ts[j] (List.getElem?_eq_getElem hj2)
      simp only [Option.some.injEq, Addr.mk.injEq, and_true] at hq
      obtain ⟨rfl, rfl⟩ := hq
      obtain ⟨e1, e2⟩ := hc w (.of_below (Below.refl _ _))
      exact ⟨_, fun _ => ⟨by rw [e1, List.getElem?_eq_getElem hj2]; rfl, e2, rfl⟩⟩
    · exact ⟨undef, fun h => absurd h hj2⟩
  obtain ⟨V, hV⟩ := Classical.axiomOfChoice hex
  have hcell : ∀ i, i < ts.length * 2 → w.cell? ⟨b, o + i, none⟩ = some (if i % 2 = 0 then .int .i64 (ts[i / 2]?.getD (.mk 0 [])).kind else V (i / 2)) ∧ (if i % 2 = 0 then Value.int .i64 (ts[i / 2]?.getD (.mk 0 [])).kind else V (i / 2)).oneCell' = true := fun i hi => by
    obtain ⟨h1, h2, h3⟩ := hV (i / 2) (by omega)
    by_cases he : i % 2 = 0
    · rw [if_pos he]
      rw [show o + i = o + i / 2 * 2 by omega]
      exact ⟨h1, rfl⟩
    · rw [if_neg he]
      rw [show o + i = o + i / 2 * 2 + 1 by omega]
      exact ⟨h2, h3⟩
  obtain ⟨s', w', hr, ho, hg, hwh⟩ := run_app (P := Try.prog) w.heap.size 39 ty 41 j0 _ 2 _ Try.underlying39 hj hy0 hy1 hy2 rfl (by decide)
    (.slice none 0 0) 0 [] (World.ownsRow_nil w _ _ _) ⟨b, o, none⟩ ts.length c ((List.range (ts.length * 2)).map fun i => if i % 2 = 0 then Value.int .i64 (ts[i / 2]?.getD (.mk 0 [])).kind else V (i / 2)) (by simp) (fun j u hu => by
      rw [List.getElem?_map, Option.map_eq_some_iff] at hu
      obtain ⟨i, hi, rfl⟩ := hu
      have hlt := (List.getElem?_eq_some_iff.1 hi).1
      rw [List.length_range] at hlt
      rw [List.getElem?_range hlt] at hi
      obtain rfl := Option.some.inj hi
      rw [show ((⟨b, o, none⟩ : Addr).add j) = ⟨b, o + j, none⟩ by unfold Addr.add; split <;> simp_all]
      exact (hcell _ hlt).1) (fun u hu => by
      obtain ⟨i, hi, rfl⟩ := List.mem_map.1 hu
      exact (hcell i (List.mem_range.1 hi)).2) (by unfold maxLen; omega) (by omega) (Nat.le_refl _)
  have hbel : Below w.heap.size w w' := (Below.refl _ _).grown hg (Nat.le_refl _) (fun k hk => by cases hk)
  rw [Nat.zero_add] at ho
  have hx : ∀ j, j < ts.length → ([] ++ (List.range (ts.length * 2)).map fun i => if i % 2 = 0 then Value.int .i64 (ts[i / 2]?.getD (.mk 0 [])).kind else V (i / 2))[j * 2]? = some (.int .i64 (ts[j]?.getD (.mk 0 [])).kind) ∧ ([] ++ (List.range (ts.length * 2)).map fun i => if i % 2 = 0 then Value.int .i64 (ts[i / 2]?.getD (.mk 0 [])).kind else V (i / 2))[j * 2 + 1]? = some (V j) := fun j hj2 => by
    simp only [List.nil_append, List.getElem?_map]
    rw [List.getElem?_range (by omega), List.getElem?_range (by omega)]
    simp only [Option.map_some]
    rw [if_pos (by omega), if_neg (by omega), show j * 2 / 2 = j by omega, show (j * 2 + 1) / 2 = j by omega]
    exact ⟨rfl, rfl⟩
  obtain ⟨hl, h1 | ⟨g, cap, cur, rfl, hgb, rest⟩⟩ := ho
  · exact absurd h1.2 h0
  · obtain ⟨r1, r2, r3⟩ := Row.of_owns (w := w') (base := w.heap.size) (g := g) (cap := cap) (n := ts.length) ⟨hl, Or.inr ⟨g, cap, cur, rfl, hgb, rest⟩⟩ hx
    exact ⟨_, w', hr, Or.inr ⟨g, cap, _, _, rfl, r2, r3, r1⟩, hbel⟩
theorem step_run {P : Program} {w w' : World} {ops : Array Oper} {o : Oper} {a : Act} {K : Act → World → Prop} {Q : Exit → Act → World → Prop} {E : Prop} {t : TypeId} {vs vx v' : Value} (hgd : o.guard = none) (s x : Operand)
    (ho : o.op = .call { callee := .builtin .append, args := #[s, x], argTypes := #[t, t] }) (hs : a.eval s = vs) (hx : a.eval x = vx) (hrun : (Builtin.append_ #[t, t] o.type #[vs, vx]).run P w = .ok v' w')
    (h : K (a.put o.dst v') w') : if Region.wanted o (yielded ops a.tmps) = true then Oper.wp P o a w K Q else E := by
  have hw : Region.wanted o (yielded ops a.tmps) = true := by simp [Region.wanted, hgd]
  rw [if_pos hw]
  unfold Oper.wp
  simp [execOp, ho, resolve, invoke, builtin, hs, hx, hrun, Result.andThen]
  exact h

def NodeRet (y : Ty) (p : Option Addr) (c : Nat) (W : World) (e : Ending) (W' : World) : Prop :=
  ∃ s', e = .returned (.tuple #[.agg #[.int .i64 y.kind, s'], .slice p y.args.length c]) ∧ Part W W' y.args.length s' ∧ Below W.heap.size W W'
theorem part_slice {W W' : World} {n : Nat} {s' : Value} (h : Part W W' n s') : ∃ p' c', s' = .slice p' n c' := by
  rcases h with ⟨rfl, rfl⟩ | ⟨b', cc, _, _, rfl, _⟩
  · exact ⟨_, _, rfl⟩
  · exact ⟨_, _, rfl⟩
theorem set2_below {B b i j : Nat} {W W' : World} {u v : Value} (h : Below B W W') (hb : B ≤ b) : Below B W ((W'.setCell ⟨b, i, none⟩ u).setCell ⟨b, j, none⟩ v) :=
  (h.setCell (p := ⟨b, i, none⟩) hb u).setCell (p := ⟨b, j, none⟩) hb v
theorem results_ct {fn : Func} {p q : Tmp} {ty : TypeId} (h : fn.results = #[.cell p ty, .tmp q]) (tmps : Array Value) (P : Program) (w : World) :
    (results fn tmps).run P w = ((asAddr (tmps.getD p undef)).run P w).andThen fun a w₁ => ((loadVar ty a).run P w₁).andThen fun v w₂ => .ok (.tuple #[v, tmps.getD q undef]) w₂ := by
  simp only [results, h]
  simp [Sem.run_bind, Result.andThen]
theorem part_set {w0 w W : World} {n b i j : Nat} {s' u v : Value} (h : Part w0 W n s') (hw : w.heap.size ≤ w0.heap.size) (hb : b < w0.heap.size) : Part w ((W.setCell ⟨b, i, none⟩ u).setCell ⟨b, j, none⟩ v) n s' := by
  rcases h with h | ⟨b', cc, K, S, h1, h2, h3, h4⟩
  · exact Or.inl h
  · refine Or.inr ⟨b', cc, K, S, h1, by omega, h3, h4.of_block ?_⟩
    rw [Below.heap_setCell _ _ _ _ (by show b' ≠ b; omega), Below.heap_setCell _ _ _ _ (by show b' ≠ b; omega)]
set_option maxRecDepth 100000 in
set_option maxHeartbeats 2000000 in
theorem copyN_any {C : Nat → Prop} {y : Ty} {p : Option Addr} {c : Nat} {w : World} (h : TS w C y.args (.slice p y.args.length c)) (hn : y.args.length ≤ 2097152) :
    Calls Try.prog 44 #[.agg #[.int .i64 y.kind, .slice p y.args.length c]] w (NodeRet y p c w) := by
  obtain ⟨w0, hw0, hs0, hb0, r0, r1⟩ := box_new2 w #[.int .i64 y.kind, .slice p y.args.length c] #[.int .i64 0, .slice none 0 0] 41 41
  obtain ⟨s', w', hrun, hpart, hbel⟩ := app_types (h.keep (hb0.drew)) hn 39
  obtain ⟨p', c', rfl⟩ := part_slice hpart
  have b0 := cell_of_blk r0 0
  have b1 := cell_of_blk r0 1
  have HP := Lib.hid hpart
  have HB := Lib.hid (hb0.drew.trans (hbel.mono hb0.drew.size))
  have hr0' : w'.heap[w.heap.size]? = _ := (hbel.block w.heap.size (by show w.heap.size < w0.heap.size; omega)).trans r0
  have hr1' : w'.heap[w.heap.size + 1]? = _ := (hbel.block (w.heap.size + 1) (by show w.heap.size + 1 < w0.heap.size; omega)).trans r1
  have e0 := cell_of_blk hr0' 0
  have e1 := cell_of_blk hr0' 1
  have d0 := cell_of_blk hr1' 0
  have d1 := cell_of_blk hr1' 1
  have dz := unfrozen_of_blk hr1'
  simp only [List.getElem?_toArray, List.getElem?_cons_zero, List.getElem?_cons_succ] at b0 b1 e0 e1 d0 d1
  have HS := Lib.hid (And.intro hs0 hr1')
  clear h hpart hbel hb0 r0 r1 hr0' hr1' hs0
  go_enter Try.func44, Try.ntmps44
  go_wp2_with fail
  go_region_law (first | (refine step_run rfl (.const (.slice none 0 0)) (.tmp 7) rfl rfl rfl hrun ?_))
  all_goals
    go_wp2_with fail
    refine bodyPost_ret (v := .tuple #[.agg #[.int .i64 y.kind, .slice p' y.args.length c'], .slice p y.args.length c]) ?_ rfl ?_
    · rw [results_ct rfl]
      go_simp
    · exact ⟨_, rfl, part_set HP.out (by show w.heap.size ≤ w0.heap.size; have := HS.out.1; omega) (by show w.heap.size + 1 < w0.heap.size; have := HS.out.1; omega), set2_below HB.out (by omega)⟩
/-- What EraseType does at a node: it passes over code, and copies the node that it finds. -/
def EraseRet (x : Ty) (W0 W : World) (C : Nat → Prop) (e : Ending) (W' : World) : Prop :=
  ∃ (y : Ty) (p : Option Addr) (c : Nat) (s' : Value), e = .returned (.tuple #[.agg #[.int .i64 y.kind, s'], .slice p y.args.length c]) ∧ x.erase = .mk y.kind (y.args.map Ty.erase) ∧ y.nodes ≤ x.nodes ∧ TS W0 C y.args (.slice p y.args.length c) ∧ Part W W' y.args.length s' ∧ Below W.heap.size W W'
end Go.Proofs.Yteoeefmdfalnjaa
/- GrowE: The contract of the program's EraseType: a tree that grows from a seed (growTree, at types). -/
namespace Go.Proofs.Yteoeefmdfalnjaa
open Go Go.RowKit

/-- What waits, the next one last: a place with its slice's value. -/
abbrev Jobs := List (Job × Value)
def tcells (st : Jobs) : List Value := st.flatMap fun e => [.int .i64 e.1.x.kind, e.2, .pointer (some ⟨e.1.b, e.1.o, none⟩)]
theorem tcells_length (st : Jobs) : (tcells st).length = st.length * 3 := by
  induction st with
  | nil => rfl
  | cons e st ih => simp only [tcells, List.flatMap_cons, List.length_append, List.length_cons, List.length_nil] at *; omega
theorem tcells_snoc (st : Jobs) (e : Job × Value) : tcells (st ++ [e]) = tcells st ++ [.int .i64 e.1.x.kind, e.2, .pointer (some ⟨e.1.b, e.1.o, none⟩)] := by simp [tcells]
theorem tcells_take (st : Jobs) (e : Job × Value) : (tcells (st ++ [e])).take (st.length * 3) = tcells st := by
  rw [tcells_snoc, ← tcells_length, List.take_left]
theorem tcells_last (st : Jobs) (e : Job × Value) : (tcells (st ++ [e]))[st.length * 3]? = some (.int .i64 e.1.x.kind) ∧ (tcells (st ++ [e]))[st.length * 3 + 1]? = some e.2 ∧ (tcells (st ++ [e]))[st.length * 3 + 2]? = some (.pointer (some ⟨e.1.b, e.1.o, none⟩)) := by
  have h := tcells_length st
  rw [tcells_snoc]
  refine ⟨?_, ?_, ?_⟩ <;> (rw [List.getElem?_append_right (by omega), h]; simp)
def tload (st : Jobs) : Nat := (st.map fun e => e.1.x.nodes).sum
theorem tload_snoc (st : Jobs) (e : Job × Value) : tload (st ++ [e]) = tload st + e.1.x.nodes := by simp [tload]
theorem tload_ge (st : Jobs) : st.length ≤ tload st := by
  induction st with
  | nil => simp [tload]
  | cons e st ih =>
    have := e.1.x.nodes_eq
    simp only [tload, List.map_cons, List.sum_cons, List.length_cons] at *
    omega
theorem infoTk : (Try.prog.info? 83).map (fun i => (i.zero, i.size, i.bytes)) = some (some (.agg #[.int .i64 0, .slice none 0 0, .pointer none]), 3, 40) := by kernel_rfl

theorem OS.bound {w : World} {F : Nat → Prop} {ts : List Ty} {v : Value} (h : OS w ts v F) : OS w ts v (fun b => F b ∧ b < w.heap.size) := by
  induction h with
  | none F => exact .none _
  | row K S G hrow hm hF hk hr hG hd ih =>
    exact .row K S (fun j b => G j b ∧ b < w.heap.size) hrow hm ⟨hF, hrow.lt⟩ hk ih (fun j x hj hx => ⟨⟨(hG j x hj hx.1).1, hx.2⟩, (hG j x hj hx.1).2⟩) (fun i j x hi hj hij h1 h2 => hd i j x hi hj hij h1.1 h2.1)

theorem loop_world3 (w : World) (A B A' : Array Value) (tA tB tA' : TypeId) : ∃ wl : World, ((w.alloc (.cells A tA)).alloc (.cells B tB)).alloc (.cells A' tA') = wl ∧ wl.heap.size = w.heap.size + 1 + 1 + 1 ∧ Below w.heap.size w wl ∧
    wl.heap[w.heap.size]? = some (.cells A tA (0, 0)) ∧ wl.heap[w.heap.size + 1]? = some (.cells B tB (0, 0)) ∧ wl.heap[w.heap.size + 1 + 1]? = some (.cells A' tA' (0, 0)) := by
  have s1 : (w.alloc (.cells A tA)).heap.size = w.heap.size + 1 := by simp
  have s2 : ((w.alloc (.cells A tA)).alloc (.cells B tB)).heap.size = w.heap.size + 1 + 1 := by simp
  refine ⟨_, rfl, by simp, (((Below.refl _ w).alloc (Nat.le_refl _) _).alloc (by simp) _).alloc (by simp; omega) _, ?_, ?_, ?_⟩
  · rw [Below.heap_alloc _ _ _ (by simp; omega), Below.heap_alloc _ _ _ (by simp)]
    exact blk_new _ _
  · rw [Below.heap_alloc _ _ _ (by simp), ← s1]
    exact blk_new _ _
  · rw [← s2]
    exact blk_new _ _

theorem cell_setCell_ne {w : World} {b o c q : Nat} {v : Value} (h : ¬ (c = b ∧ q = o)) : (w.setCell ⟨b, o, none⟩ v).cell? ⟨c, q, none⟩ = w.cell? ⟨c, q, none⟩ := by
  by_cases hc : c = b
  · subst hc
    have hq : q ≠ o := fun e => h ⟨rfl, e⟩
    unfold World.cell?
    simp only [World.setCell, Array.getElem?_modify]
    cases hw : w.heap[c]? with
    | none => simp
    | some ob =>
      simp only [if_true, Option.map_some]
      cases ob <;> simp [Array.getElem?_setIfInBounds_ne (Ne.symm hq)]
  · exact World.cell?_of_block (Below.heap_setCell _ _ _ _ hc)

theorem row_ne {w : World} {base : Nat} {e e' : TypeId} {size n g cap b : Nat} {xs : List Value} {cs : Array Value} {fr : Nat × Nat} (h : w.ownsRow base e size (.slice (some ⟨g, 0, none⟩) n cap) n xs) (hb : w.heap[b]? = some (.cells cs e' fr)) (hne : e' ≠ e) : g ≠ b := by
  rintro rfl
  rcases h.2 with h0 | ⟨g', cap', cur, hv, hg, hblk, _⟩
  · exact absurd h0.1 (by simp)
  · simp only [Value.slice.injEq, Option.some.injEq, Addr.mk.injEq, true_and, and_true] at hv
    obtain ⟨rfl, rfl⟩ := hv
    rw [hb] at hblk
    simp only [Option.some.injEq, Obj.cells.injEq] at hblk
    exact hne hblk.2.1

structure ES (w wr : World) (t : Ty) (st : Jobs) (g cap : Nat) (U : Nat → Prop) : Prop where
  own : wr.ownsRow w.heap.size 83 3 (.slice (some ⟨g, 0, none⟩) st.length cap) st.length (tcells st)
  ts : ∀ e ∈ st, TS w (· < w.heap.size) e.1.x.args e.2
  inv : EInv wr U (st.map (·.1)) (w.heap.size + 1 + 1) t.erase
  gU : ¬ U g
  res : wr.heap[w.heap.size + 1]? = some (.cells #[.int .i64 0, .slice none 0 0] 41 (0, 0))
  below : Below w.heap.size w wr

theorem tk_fill {w w' : World} {b o : Nat} (h : w'.heap[b]? = w.heap[b]?) : w'.cell? ⟨b, o, none⟩ = w.cell? ⟨b, o, none⟩ := World.cell?_of_block (a := ⟨b, o, none⟩) h
end Go.Proofs.Yteoeefmdfalnjaa
