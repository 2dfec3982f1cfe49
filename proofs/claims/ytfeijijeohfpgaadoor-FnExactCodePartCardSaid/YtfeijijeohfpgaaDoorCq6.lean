/-
  Several texts of the proof in one (each says below what it holds): NodesT GrowA GrowE SpecErase SpecCopy EraseTypeLaw DrawT1 TmSpecCopy GnodeC GrM GrN.
-/
import Derived.Test.YtfeijijeohfpgaaDoorCq3
import Derived.Test.YtfeijijeohfpgaaDoorCq1
import Derived.Test.YtfeijijeohfpgaaDoorCq5
import Derived.Test.YtfeijijeohfpgaaDoorCq2
import Derived.Test.YtfeijijeohfpgaaDoorCq4
import Derived.RangeFuncNested
import Derived.RangeFuncBound
import Derived.RangeFuncCalls
import Derived.Shelf.Abstract
import Derived.IntWalk
import Derived.Shelf.RegionOpen
import Derived.WalkKit
import Derived.TacticsInMore
import Derived.LoopNIn
import Derived.LoopIn
import Derived.Sort.LoopGhostIn
import Derived.Lib.SmallJoins
import Derived.Deep.RegionHeldLaw
import Derived.Deep.RegionWith
import Derived.Deep.RegionHeld3
import Derived.Deep.CutRange
set_option linter.unusedVariables false
set_option linter.unusedSimpArgs false
namespace Go.Proofs.YtfeijijeohfpgaaDoor
open Go Go.RowKit Go.Shelf
attribute [local go_sem] Oper.semAt_some

abbrev LT (w : World) (C : Nat → Prop) (l : List Ty) (v : Value) : Prop := TS w C l v
abbrev NT (w : World) (C : Nat → Prop) (t : Ty) (v : Value) : Prop := TT w C t v
structure At2 (w : World) (b o : Nat) (t : Ty) (p : Option Addr) (c : Nat) : Prop where
  kind : w.cell? ⟨b, o, none⟩ = some (.int .i64 t.kind)
  args : w.cell? ⟨b, o + 1, none⟩ = some (.slice p t.args.length c)
theorem ntT_mk {w : World} {C : Nat → Prop} {t : Ty} {p : Option Addr} {c : Nat} (h : TS w C t.args (.slice p t.args.length c)) : NT w C t (.agg #[.int .i64 t.kind, .slice p t.args.length c]) := ⟨_, rfl, h⟩
abbrev TS' (w : World) (C : Nat → Prop) (t : Ty) (p : Option Addr) (c : Nat) : Prop := TS w C t.args (.slice p t.args.length c)

mutual
def walkT : Ty → Nat → List (Ty × Nat)
  | .mk k ts, d => (.mk k ts, d) :: walkST ts (d + 1)
def walkST : List Ty → Nat → List (Ty × Nat)
  | [], _ => []
  | t :: ts, d => walkT t d ++ walkST ts d
end
theorem walkT_eq (t : Ty) (d : Nat) : walkT t d = (t, d) :: walkST t.args (d + 1) := by cases t; rfl
theorem walkST_one (t : Ty) (d : Nat) : walkST [t] d = walkT t d := by simp [walkST]
mutual
theorem walkT_length : ∀ (t : Ty) (d : Nat), (walkT t d).length = t.nodes
  | .mk k ts, d => by simp only [walkT, List.length_cons, walkST_length ts, Ty.nodes]; omega
theorem walkST_length : ∀ (ts : List Ty) (d : Nat), (walkST ts d).length = nodesS ts
  | [], d => by simp [walkST, nodesS]
  | t :: ts, d => by simp only [walkST, List.length_append, walkST_length ts, walkT_length t, nodesS]
end
abbrev WaitT := List (List Ty × Value)
def rWT : WaitT → List (Ty × Nat)
  | [] => []
  | e :: r => walkST e.1 (r.length + 1) ++ rWT r
def stWalkT (st : WaitT) : List (Ty × Nat) := rWT st.reverse
theorem stWalkT_snoc (st : WaitT) (e : List Ty × Value) : stWalkT (st ++ [e]) = walkST e.1 (st.length + 1) ++ stWalkT st := by simp [stWalkT, rWT]
theorem stWalkT_nil : stWalkT [] = [] := rfl

theorem wsndT_last (st : WaitT) (e : List Ty × Value) : ((st ++ [e]).map (·.2))[st.length]? = some e.2 := by simp
theorem wsndT_take (st : WaitT) (e : List Ty × Value) : ((st ++ [e]).map (·.2)).take (st.length * 1) = st.map (·.2) := by simp
theorem wsndT_set (st : WaitT) (e : List Ty × Value) (l : List Ty) (u : Value) : ((st ++ [e]).map (·.2)).set st.length u = (st ++ [(l, u)]).map (·.2) := by
  simp

theorem infoLT : (Tryd.prog.info? 30).map (fun i => (i.zero, i.size, i.bytes)) = some (some (.slice none 0 0), 1, 24) := by kernel_rfl
structure MidT (W wr : World) (C : Nat → Prop) (t : Ty) (p : Option Addr) (c : Nat) (J : List (Ty × Nat) → World → Prop) (pre : List (Ty × Nat)) (st : WaitT) (g cap : Nat) : Prop where
  own : wr.ownsRow (W.heap.size + 1) 30 1 (.slice (some ⟨g, 0, none⟩) st.length cap) st.length (st.map (·.2))
  j : J pre wr
  ts : ∀ e ∈ st, LT W C e.1 e.2 ∨ e = ([t], .slice (some ⟨W.heap.size, 0, none⟩) 1 1)
  stays : Stays C W wr
  size : W.heap.size ≤ wr.heap.size
  root : wr.heap[W.heap.size]? = some (.cells #[.int .i64 t.kind, .slice p t.args.length c] 32 (0, 0))
  node : TS' W C t p c
  cnt : st.length ≤ pre.length + 1

theorem MidT.lt {W wr : World} {C : Nat → Prop} {t : Ty} {p : Option Addr} {c : Nat} {J : List (Ty × Nat) → World → Prop} {pre : List (Ty × Nat)} {st : WaitT} {g cap : Nat} (h : MidT W wr C t p c J pre st g cap) : W.heap.size < wr.heap.size := (Array.getElem?_eq_some_iff.1 h.root).1
theorem MidT.open {W wr : World} {C : Nat → Prop} {t : Ty} {p : Option Addr} {c : Nat} {J : List (Ty × Nat) → World → Prop} {pre : List (Ty × Nat)} {st : WaitT} {g cap : Nat} {x : Ty} {l : List Ty} {v : Value} (h : MidT W wr C t p c J pre (st ++ [(x :: l, v)]) g cap) :
    ∃ (b o c : Nat) (p' : Option Addr) (c' : Nat), v = .slice (some ⟨b, o, none⟩) (l.length + 1) c ∧ l.length + 1 ≤ c ∧ c ≤ 9223372036854775807 ∧ (C b ∨ b = W.heap.size) ∧ b < wr.heap.size ∧
      At2 wr b o x p' c' ∧ TS' W C x p' c' ∧ ∀ q, (l ≠ [] → q = some ⟨b, o + 2, none⟩) → LT W C l (.slice q l.length (c - 1)) := by
  rcases h.ts (x :: l, v) (by simp) with hT | he
  · simp only at hT
    cases hT with
    | @cons _ b o c S h1 hc hm hC hb hk hs hr =>
      obtain ⟨p', c', hf⟩ := (hr 0 x rfl).form
      have e0 := hk 0 x rfl
      have e1 := hs 0 x rfl
      rw [Nat.zero_mul, Nat.add_zero] at e0 e1
      rw [hf] at e1
      have hkeep : ∀ i u, W.cell? ⟨b, i, none⟩ = some u → wr.cell? ⟨b, i, none⟩ = some u := fun i u hu => (World.cell?_of_block (w := W) (a := ⟨b, i, none⟩) (h.stays.2 b hC hb)).trans hu
      refine ⟨b, o, c, p', c', rfl, hc, hm, Or.inl hC, Nat.lt_of_lt_of_le hb h.size, ⟨hkeep _ _ e0, hkeep _ _ e1⟩, (by show TS W C x.args _; rw [← hf]; exact hr 0 x rfl), fun q hq => ?_⟩
      by_cases hl : l = []
      · subst hl; exact .nil _ _
      · rw [hq hl]
        have hl1 : 1 ≤ l.length := by cases l with | nil => exact absurd rfl hl | cons => simp
        refine .cons (fun j => S (j + 1)) hl1 (by simp only [List.length_cons] at hc; omega) (by omega) hC hb (fun j y hj => ?_) (fun j y hj => ?_) (fun j y hj => hr (j + 1) y (by simpa using hj))
        · have := hk (j + 1) y (by simpa using hj)
          rw [show o + (j + 1) * 2 = o + 2 + j * 2 by omega] at this; exact this
        · have := hs (j + 1) y (by simpa using hj)
          rw [show o + (j + 1) * 2 = o + 2 + j * 2 by omega] at this; exact this
  · simp only [Prod.mk.injEq, List.cons.injEq] at he
    obtain ⟨⟨rfl, rfl⟩, rfl⟩ := he
    refine ⟨W.heap.size, 0, 1, p, c, rfl, by simp, by omega, Or.inr rfl, h.lt, ?_, h.node, fun q hq => ?_⟩
    · have hr := h.root
      exact ⟨cell_of_blk hr 0, cell_of_blk hr 1⟩
    · exact .nil _ _

theorem argsT_any (k : Int) (p : Option Addr) (n c : Nat) (w : World) : Calls Tryd.prog 108 #[.agg #[.int .i64 k, .slice p n c]] w fun e w' => e = .returned (.slice p n c) ∧ Below w.heap.size w w' := by
  go_enter Tryd.func108, Tryd.ntmps108
  go_wp2
  go_ret
  exact ⟨rfl, (Below.refl _ _).alloc (Nat.le_refl _) _⟩

set_option maxRecDepth 100000 in
set_option maxHeartbeats 4000000 in
theorem nodesT_it (l Bt Bp : Nat) (t : Ty) (p : Option Addr) (c : Nat) (Cb C : Nat → Prop) (W : World) (J Jx : List (Ty × Nat) → World → Prop)
    (hBt : W.heap[Bt]? = some (.cells #[.int .i64 t.kind, .slice p t.args.length c] 32 (0, 0))) (hBp : W.heap[Bp]? = some (.cells #[.func (.func 108) #[] #[]] 128 (0, 0))) (hT : TS' W C t p c) (hn : t.nodes ≤ 2097153)
    (hCb : ∀ b, Cb b → b < W.heap.size) (hC : ∀ b, C b → ¬ Cb b ∧ b < W.heap.size) (hCp : C Bp)
    (hJ : ∀ pre A B, J pre A → Below W.heap.size A B → J pre B)
    (hY : ∀ pre x v d W1, J pre W1 → pre ++ [(x, d)] <+: walkT t 1 → NT W1 C x v → YieldAt Fence.wide 0 Tryd.prog l #[v, .int .i64 (d : Nat)] W1 fun e W' =>
      (e = .returned (.bool true) ∧ J (pre ++ [(x, d)]) W' ∧ Holds Cb W1 W') ∨ (e = .returned (.bool false) ∧ Jx (pre ++ [(x, d)]) W'))
    (h0 : J [] W) :
    CallsIn Fence.wide 1 Tryd.prog 116 #[.func (.yield l) #[] #[], .pointer (some ⟨Bt, 0, none⟩), .pointer (some ⟨Bp, 0, none⟩)] W fun e W' =>
      (∃ v, e = .returned v) ∧ (J (walkT t 1) W' ∨ ∃ pre, pre <+: walkT t 1 ∧ Jx pre W') := by
  obtain ⟨i0, hi, hz0, hz1, hz2⟩ := info_parts infoLT
  have HT := Lib.hid hT
  have HY := Lib.hid hY
  have HJ := Lib.hid hJ
  have HJ0 := Lib.hid h0
  have HCb := Lib.hid hCb
  have HC := Lib.hid hC
  have HCP := Lib.hid hCp
  have HBP := Lib.hid hBp
  have HN := Lib.hid hn
  have k0 := cell_of_blk hBt 0
  have k1 := cell_of_blk hBt 1
  have kp := cell_of_blk hBp 0
  simp only [List.getElem?_toArray, List.getElem?_cons_zero, List.getElem?_cons_succ] at k0 k1 kp
  clear hT hY hJ h0 hCb hC hBt hBp hn
  refine callsIn_of_wp Tryd.func116 rfl trivial ?_ rfl
  simp only [Tryd.ntmps116, List.size_toArray, List.length_cons, List.length_nil, Nat.reduceAdd, Nat.reduceSub, Array.replicate_succ, Array.replicate_zero, List.push_toArray, List.append_toArray, List.nil_append, List.cons_append]
  gi_wp2_with fail
  gi_loopg [4] (2 * (walkT t 1).length + 1) (fun k v wr => ∃ (pre : List (Ty × Nat)) (st : WaitT) (g cap : Nat), v = .slice (some ⟨g, 0, none⟩) st.length cap ∧ k = 2 * (stWalkT st).length + st.length ∧ pre ++ stWalkT st = walkT t 1 ∧ MidT W wr C t p c J pre st g cap)
  case atStart =>
    refine ⟨[], [([t], .slice (some ⟨W.heap.size, 0, none⟩) 1 1)], W.heap.size + 1, 1, rfl, by simp [stWalkT, rWT, walkST_one], by simp [stWalkT, rWT, walkST_one], ?_⟩
    have hb : Below W.heap.size W ((W.alloc (.cells #[.int .i64 t.kind, .slice p t.args.length c] 32)).alloc (.cells #[.slice (some ⟨W.heap.size, 0, none⟩) 1 1] 30)) := ((Below.refl _ W).alloc (Nat.le_refl _) _).alloc (by simp) _
    refine ⟨?_, HJ.out _ _ _ HJ0.out hb, ?_, .of_below hb, hb.size, ?_, HT.out, by simp⟩
    · have h1 := World.ownsRow_lit (base := W.heap.size + 1) (e := 30) (size := 1) (W.alloc (.cells #[.int .i64 t.kind, .slice p t.args.length c] 32)) #[.slice (some ⟨W.heap.size, 0, none⟩) 1 1] 1 (by simp) (by unfold maxLen; omega) rfl
      rw [show (W.alloc (.cells #[.int .i64 t.kind, .slice p t.args.length c] 32)).heap.size = W.heap.size + 1 by simp] at h1
      exact h1
    · intro e he
      simp only [List.mem_singleton] at he
      exact Or.inr he
    · rw [Below.heap_alloc _ _ _ (by simp)]
      exact blk_new _ _
  case round =>
    rename World => wo
    obtain ⟨pre, st, g, cap, rfl, rfl, hord, hM⟩ := hrel
    rcases snoc_cases st with rfl | ⟨st0, ⟨ls, sl⟩, rfl⟩
    · have HM := Lib.hid hM
      have HO := Lib.hid hord
      clear hM hord
      gi_wp2
      go_end0
      have hp : pre = walkT t 1 := by have := HO.out; simpa [stWalkT, rWT] using this
      exact ⟨⟨_, rfl⟩, .inl (hp ▸ HM.out.j)⟩
    · have hlen : (st0 ++ [((ls, sl) : List Ty × Value)]).length = st0.length + 1 := by simp
      have hown := hM.own
      rw [hlen] at hown
      rw [hlen]
      obtain ⟨hcap1, hcap2, hg1, hg2⟩ := row_cap hown
      have k0 := (hown.cellAt st0.length (by omega)).trans (wsndT_last st0 _)
      have kz := hown.frozenAt st0.length
      simp only at k0
      unfold maxLen at hcap2
      have i0' : (0 : Int) ≤ (st0.length : Int) := Int.natCast_nonneg _
      have i1' : (st0.length : Int) < ((st0.length : Int) + 1) := by omega
      have hcnt : st0.length ≤ 2097153 := by
        have h1 := hM.cnt
        have h2 := congrArg List.length hord
        have h3 := HN.out
        rw [List.length_append, walkT_length] at h2
        rw [hlen] at h1
        omega
      cases ls with
      | nil =>
        have HM := Lib.hid hM
        have HO := Lib.hid hord
        have HOWN := Lib.hid hown
        obtain ⟨a, c0, hsl⟩ : ∃ a c, sl = .slice a 0 c := by
          rcases hM.ts ([], sl) (by simp) with h1 | h1
          · exact h1.form
          · simp at h1
        subst hsl
        clear hM hord hown
        gi_wp2_with fail
        go_roundg (2 * (stWalkT st0).length + st0.length)
        case rel =>
          have h1 := row_take HOWN.out (Nat.le_succ st0.length)
          rw [wsndT_take] at h1
          refine ⟨pre, st0, g, cap, rfl, rfl, by have := HO.out; rwa [stWalkT_snoc] at this, h1, HM.out.j, fun e he => HM.out.ts e (List.mem_append_left _ he), HM.out.stays, HM.out.size, HM.out.root, HM.out.node, ?_⟩
          have := HM.out.cnt
          rw [List.length_append] at this
          omega
        case measure =>
          rw [stWalkT_snoc, List.length_append, List.length_append]
          simp only [walkST, List.length_nil, List.length_singleton]
          omega
      | cons x ls =>
        obtain ⟨b, o, c0, p', c', rfl, hlc, hc63, hbC, hbw, hcell, hnx, htail⟩ := hM.open
        have hbg : b ≠ g := by
          have h1 := hg1
          rcases hbC with h2 | h2
          · have := (HC.out b h2).2
            omega
          · omega
        obtain ⟨q, hq⟩ : ∃ q, (if c0 = 1 then some (⟨b, o, none⟩ : Addr) else some ⟨b, o + 2, none⟩) = q := ⟨_, rfl⟩
        have htl : LT W C ls (.slice q ls.length (c0 - 1)) := htail q (fun hne => by
          have h1 : 1 ≤ ls.length := by cases ls with | nil => exact absurd rfl hne | cons => simp
          rw [← hq, if_neg (by omega)])
        obtain ⟨hst, hgr⟩ := hown.stored st0.length (.slice q ls.length (c0 - 1))
        rw [wsndT_set st0 _ ls] at hst
        have hb1 : Below (W.heap.size + 1) wo (wo.setCell ⟨g, st0.length, none⟩ (.slice q ls.length (c0 - 1))) := (Below.refl _ wo).setCell (p := ⟨g, st0.length, none⟩) hg1 _
        have hcC : ∀ z, C z → z < W.heap.size := fun z hz => (HC.out z hz).2
        have hst1 : Stays C W (wo.setCell ⟨g, st0.length, none⟩ (.slice q ls.length (c0 - 1))) := hM.stays.trans ⟨hb1.size, fun z hz _ => hb1.block z (by have := hcC z hz; omega)⟩
        have hpre : pre ++ [(x, st0.length + 1)] <+: walkT t 1 := ⟨walkST x.args (st0.length + 1 + 1) ++ (walkST ls (st0.length + 1) ++ stWalkT st0), by rw [← hord, stWalkT_snoc]; simp only [walkST, walkT_eq, List.cons_append, List.append_assoc, List.nil_append]⟩
        obtain ⟨fn, tmps, assign, body, hy, hR⟩ := HY.out pre x (.agg #[.int .i64 x.kind, .slice p' x.args.length c']) (st0.length + 1) _ (HJ.out _ _ _ hM.j (hb1.mono (by omega))) hpre (ntT_mk (hnx.stays hst1))
        rw [show ((st0.length + 1 : Nat) : Int) = (st0.length : Int) + 1 from rfl] at hy
        have hroot : (wo.setCell ⟨g, st0.length, none⟩ (.slice q ls.length (c0 - 1))).heap[W.heap.size]? = some (.cells #[.int .i64 t.kind, .slice p t.args.length c] 32 (0, 0)) := (hb1.block _ (by omega)).trans hM.root
        have HM := Lib.hid hM
        have HO := Lib.hid hord
        have HST := Lib.hid hst
        have HB1 := Lib.hid hb1
        have HST1 := Lib.hid hst1
        have HPRE := Lib.hid hpre
        have HR := Lib.hid hR
        have HTL := Lib.hid htl
        have HNX := Lib.hid hnx
        have HBC := Lib.hid hbC
        have HROOT := Lib.hid hroot
        have HQ := Lib.hid hlc
        obtain ⟨f0, f1⟩ := hcell
        have hl1 : (1 : Int) ≤ ((ls.length : Int) + 1) := by omega
        clear hM hord hown hst hgr hb1 hst1 hpre hR htl htail hnx hbC hcC hroot
        gi_wp2_with fail
        refine HR.out.mono ?_
        rintro e W3 (⟨rfl, hJ3, hH3⟩ | ⟨rfl, hJx3⟩)
        · have hbnC : ¬ Cb b := by
            rcases HBC.out with h1 | h1
            · exact (HC.out b h1).1
            · intro hc; have := HCb.out b hc; omega
          have hgnC : ¬ Cb g := fun hc => by have := HCb.out g hc; omega
          have hs1 := HB1.out.size
          have hb3 : W3.heap[b]? = wo.heap[b]? := (hH3.2 b (by omega) hbnC).trans (Below.heap_setCell _ _ _ _ hbg)
          have hp3 : W3.heap[Bp]? = W.heap[Bp]? := by
            have h1 := HC.out Bp hCp
            have h2 := HM.out.size
            rw [hH3.2 Bp (by omega) h1.1]
            exact HST1.out.2 Bp hCp h1.2
          have hown3 := row_of_block HST.out (hH3.2 g (by omega) hgnC)
          have hr3 : W3.heap[W.heap.size]? = some (.cells #[.int .i64 t.kind, .slice p t.args.length c] 32 (0, 0)) := by
            rw [hH3.2 W.heap.size (by have := HM.out.lt; omega) (fun hc => by have := HCb.out _ hc; omega)]
            exact HROOT.out
          have hlen3 : (st0 ++ [(ls, Value.slice q ls.length (c0 - 1))]).length = st0.length + 1 := by simp
          have hM3 : MidT W W3 C t p c J (pre ++ [(x, st0.length + 1)]) (st0 ++ [(ls, .slice q ls.length (c0 - 1))]) g cap := by
            refine ⟨?_, hJ3, fun e he => ?_, HST1.out.trans ⟨hH3.1, fun z hz hl => hH3.2 z hl (HC.out z hz).1⟩, ?_, hr3, HM.out.node, ?_⟩
            · rw [hlen3]; exact hown3
            · rcases List.mem_append.1 he with he | he
              · exact HM.out.ts e (List.mem_append_left _ he)
              · simp only [List.mem_singleton] at he
                subst he
                exact Or.inl HTL.out
            · have := hH3.1
              have := HM.out.size
              omega
            · have := HM.out.cnt
              rw [hlen] at this
              rw [hlen3, List.length_append, List.length_singleton]
              omega
          have g0 := (World.cell?_of_block (a := ⟨b, o, none⟩) hb3).trans f0
          have g1 := (World.cell?_of_block (a := ⟨b, o + 1, none⟩) hb3).trans f1
          have kp3 := cell_of_blk (hp3.trans HBP.out) 0
          simp only [List.getElem?_toArray, List.getElem?_cons_zero] at kp3
          have HM3 := Lib.hid hM3
          have HOWN3 := Lib.hid hown3
          have hsz3 := hM3.lt
          clear hJ3 hH3 hown3 hM3 hy HR k0 kz hb3 hp3 hr3 hbnC hgnC f0 f1 HB1 HST1 HST
          gi_wp2_with fail
          refine wpIn_wide.2 ?_
          go_region_law (first
            | (refine step_app1 (w0 := w1) (base := W.heap.size + 1) (v := .slice (some ⟨g, 0, none⟩) (st0.length + 1) cap) (n := st0.length + 1) (xs := (st0 ++ [(ls, Value.slice q ls.length (c0 - 1))]).map (·.2)) (cs := [.slice p' x.args.length c']) rfl (.tmp 40) (.tmp 46) rfl Tryd.underlying139 hi hz0 hz1 hz2 rfl (by decide) rfl (row_below HOWN3.out ((Below.refl W3.heap.size W3).drew.trans hb1)) _ rfl (by simp) rfl (fun u hu => by simp at hu; subst hu; rfl) (by unfold maxLen; omega) (by omega) (by have := hb1.size; simp at this; omega) ?_; intro w' g2 cap2 hA)
            | (go_simp; go_at_call 108; refine (argsT_any _ _ _ _ _).mono ?_; rintro e w1 ⟨rfl, hb1⟩))
          all_goals
            have HA := Lib.hid hA
            have HB := Lib.hid hb1
            clear hA hb1
            gi_wp2_with fail
            go_roundg (2 * (stWalkT ((st0 ++ [(ls, Value.slice q ls.length (c0 - 1))]) ++ [(x.args, .slice p' x.args.length c')])).length + (st0.length + 2))
            case rel =>
              have hb3 : Below W3.heap.size W3 w1 := (Below.refl W3.heap.size W3).drew.trans HB.out
              have hlen3 : (st0 ++ [(ls, Value.slice q ls.length (c0 - 1))]).length = st0.length + 1 := by simp
              have hg3 := (row_cap HOWN3.out).2.2
              have hs3 := hb3.size
              have hbw : Below (W.heap.size + 1) W3 w' := (hb3.mono (by omega)).trans HA.out.below
              refine ⟨pre ++ [(x, st0.length + 1)], (st0 ++ [(ls, .slice q ls.length (c0 - 1))]) ++ [(x.args, .slice p' x.args.length c')], g2, cap2, by rw [List.length_append, hlen3]; rfl, by rw [List.length_append, hlen3]; rfl, ?_, ?_⟩
              · rw [stWalkT_snoc, hlen3, stWalkT_snoc, ← HO.out, stWalkT_snoc]
                simp only [walkST, walkT_eq, List.cons_append, List.append_assoc, List.nil_append]
              · refine ⟨?_, HJ.out _ _ _ HM3.out.j (hbw.mono (by omega)), fun e he => ?_, HM3.out.stays.trans ⟨hbw.size, fun z hz _ => hbw.block z (by have := (HC.out z hz).2; omega)⟩, by have := hbw.size; have := HM3.out.size; omega, (hbw.block _ (by omega)).trans HM3.out.root, HM3.out.node, ?_⟩
                · rw [List.map_append, List.length_append, hlen3]
                  exact HA.out.own
                · rcases List.mem_append.1 he with he | he
                  · exact HM3.out.ts e he
                  · simp only [List.mem_singleton] at he
                    subst he
                    exact Or.inl (id HNX.out)
                · have := HM.out.cnt
                  rw [hlen] at this
                  simp only [List.length_append, List.length_cons, List.length_nil]
                  omega
            case measure =>
              have h1 := HO.out
              simp only [stWalkT_snoc, walkST, walkT_eq, List.length_append, List.length_cons, List.length_nil, Nat.zero_add]
              omega
        · gi_wp2_with fail
          refine bodyPost_ret (results_none rfl _ _ _) rfl ?_
          exact ⟨⟨_, rfl⟩, .inr ⟨pre ++ [(x, st0.length + 1)], HPRE.out, hJx3⟩⟩
end Go.Proofs.YtfeijijeohfpgaaDoor
namespace Go.Proofs.YtfeijijeohfpgaaDoor
open Go Go.RowKit
def Part (W W' : World) (n : Nat) (s' : Value) : Prop := (n = 0 ∧ s' = .slice none 0 0) ∨
  ∃ (b' cc : Nat) (K : Nat → Int) (S : Nat → Value), s' = .slice (some ⟨b', 0, none⟩) n cc ∧ W.heap.size ≤ b' ∧ cc ≤ maxLen ∧ Row W' b' n cc K S
theorem app_empty (p : Option Addr) (c : Nat) (w : World) (ty : TypeId) : (Builtin.append_ #[30, 30] ty #[.slice none 0 0, .slice p 0 c]).run Tryd.prog w = .ok (.slice none 0 0) w := by
  cases p <;> simp [Builtin.append_, go_sem]
theorem app_types {C : Nat → Prop} {ts : List Ty} {p : Option Addr} {c : Nat} {w : World} (h : TS w C ts (.slice p ts.length c)) (hn : ts.length ≤ 2097152) (ty : TypeId) :
    ∃ s' w', (Builtin.append_ #[30, 30] ty #[.slice none 0 0, .slice p ts.length c]).run Tryd.prog w = .ok s' w' ∧ Part w w' ts.length s' ∧ Below w.heap.size w w' := by
  by_cases h0 : ts.length = 0
  · rw [h0]
    exact ⟨_, _, app_empty p c w ty, Or.inl ⟨rfl, rfl⟩, Below.refl _ _⟩
  obtain ⟨j0, hj, hy0, hy1, hy2⟩ := info_parts infoTy
  obtain ⟨b, o, p0, c0, rfl, -, -⟩ := h.at 0 ts[0] (List.getElem?_eq_getElem (by omega))
  have hex : ∀ j, ∃ V : Value, j < ts.length → w.cell? ⟨b, o + j * 2, none⟩ = some (.int .i64 (ts[j]?.getD (.mk 0 [])).kind) ∧ w.cell? ⟨b, o + j * 2 + 1, none⟩ = some V ∧ V.oneCell' = true := fun j => by
    by_cases hj2 : j < ts.length
    · obtain ⟨b', o', p', c', hq, hc, _⟩ := h.at j ts[j] (List.getElem?_eq_getElem hj2)
      simp only [Option.some.injEq, Addr.mk.injEq, and_true] at hq
      obtain ⟨rfl, rfl⟩ := hq
      obtain ⟨e1, e2⟩ := hc w (.of_below (Below.refl _ _))
      exact ⟨_, fun _ => ⟨by rw [e1, List.getElem?_eq_getElem hj2]; rfl, e2, rfl⟩⟩
    · exact ⟨undef, fun h => absurd h hj2⟩
  obtain ⟨V, hV⟩ := Classical.axiomOfChoice hex
  have hcell : ∀ i, i < ts.length * 2 → w.cell? ⟨b, o + i, none⟩ = some (if i % 2 = 0 then .int .i64 (ts[i / 2]?.getD (.mk 0 [])).kind else V (i / 2)) ∧ (if i % 2 = 0 then Value.int .i64 (ts[i / 2]?.getD (.mk 0 [])).kind else V (i / 2)).oneCell' = true := fun i hi => by
    obtain ⟨h1, h2, h3⟩ := hV (i / 2) (by omega)
    by_cases he : i % 2 = 0
    · rw [if_pos he]
      rw [show o + i = o + i / 2 * 2 by omega]
      exact ⟨h1, rfl⟩
    · rw [if_neg he]
      rw [show o + i = o + i / 2 * 2 + 1 by omega]
      exact ⟨h2, h3⟩
  obtain ⟨s', w', hr, ho, hg, hwh⟩ := run_app (P := Tryd.prog) w.heap.size 30 ty 32 j0 _ 2 _ Tryd.underlying30 hj hy0 hy1 hy2 rfl (by decide)
    (.slice none 0 0) 0 [] (World.ownsRow_nil w _ _ _) ⟨b, o, none⟩ ts.length c ((List.range (ts.length * 2)).map fun i => if i % 2 = 0 then Value.int .i64 (ts[i / 2]?.getD (.mk 0 [])).kind else V (i / 2)) (by simp) (fun j u hu => by
      rw [List.getElem?_map, Option.map_eq_some_iff] at hu
      obtain ⟨i, hi, rfl⟩ := hu
      have hlt := (List.getElem?_eq_some_iff.1 hi).1
      rw [List.length_range] at hlt
      rw [List.getElem?_range hlt] at hi
      obtain rfl := Option.some.inj hi
      rw [show ((⟨b, o, none⟩ : Addr).add j) = ⟨b, o + j, none⟩ by unfold Addr.add; split <;> simp_all]
      exact (hcell _ hlt).1) (fun u hu => by
      obtain ⟨i, hi, rfl⟩ := List.mem_map.1 hu
      exact (hcell i (List.mem_range.1 hi)).2) (by unfold maxLen; omega) (by omega) (Nat.le_refl _)
  have hbel : Below w.heap.size w w' := (Below.refl _ _).grown hg (Nat.le_refl _) (fun k hk => by cases hk)
  rw [Nat.zero_add] at ho
  have hx : ∀ j, j < ts.length → ([] ++ (List.range (ts.length * 2)).map fun i => if i % 2 = 0 then Value.int .i64 (ts[i / 2]?.getD (.mk 0 [])).kind else V (i / 2))[j * 2]? = some (.int .i64 (ts[j]?.getD (.mk 0 [])).kind) ∧ ([] ++ (List.range (ts.length * 2)).map fun i => if i % 2 = 0 then Value.int .i64 (ts[i / 2]?.getD (.mk 0 [])).kind else V (i / 2))[j * 2 + 1]? = some (V j) := fun j hj2 => by
    simp only [List.nil_append, List.getElem?_map]
    rw [List.getElem?_range (by omega), List.getElem?_range (by omega)]
    simp only [Option.map_some]
    rw [if_pos (by omega), if_neg (by omega), show j * 2 / 2 = j by omega, show (j * 2 + 1) / 2 = j by omega]
    exact ⟨rfl, rfl⟩
  obtain ⟨hl, h1 | ⟨g, cap, cur, rfl, hgb, rest⟩⟩ := ho
  · exact absurd h1.2 h0
  · obtain ⟨r1, r2, r3⟩ := Row.of_owns (w := w') (base := w.heap.size) (g := g) (cap := cap) (n := ts.length) ⟨hl, Or.inr ⟨g, cap, cur, rfl, hgb, rest⟩⟩ hx
    exact ⟨_, w', hr, Or.inr ⟨g, cap, _, _, rfl, r2, r3, r1⟩, hbel⟩
theorem step_run {P : Program} {w w' : World} {ops : Array Oper} {o : Oper} {a : Act} {K : Act → World → Prop} {Q : Exit → Act → World → Prop} {E : Prop} {t : TypeId} {vs vx v' : Value} (hgd : o.guard = none) (s x : Operand)
    (ho : o.op = .call { callee := .builtin .append, args := #[s, x], argTypes := #[t, t] }) (hs : a.eval s = vs) (hx : a.eval x = vx) (hrun : (Builtin.append_ #[t, t] o.type #[vs, vx]).run P w = .ok v' w')
    (h : K (a.put o.dst v') w') : if Region.wanted o (yielded ops a.tmps) = true then Oper.wp P o a w K Q else E := by
  have hw : Region.wanted o (yielded ops a.tmps) = true := by simp [Region.wanted, hgd]
  rw [if_pos hw]
  unfold Oper.wp
  simp [execOp, ho, resolve, invoke, builtin, hs, hx, hrun, Result.andThen]
  exact h

def NodeRet (y : Ty) (p : Option Addr) (c : Nat) (W : World) (e : Ending) (W' : World) : Prop :=
  ∃ s', e = .returned (.tuple #[.agg #[.int .i64 y.kind, s'], .slice p y.args.length c]) ∧ Part W W' y.args.length s' ∧ Below W.heap.size W W'
theorem part_slice {W W' : World} {n : Nat} {s' : Value} (h : Part W W' n s') : ∃ p' c', s' = .slice p' n c' := by
  rcases h with ⟨rfl, rfl⟩ | ⟨b', cc, _, _, rfl, _⟩
  · exact ⟨_, _, rfl⟩
  · exact ⟨_, _, rfl⟩
theorem set2_below {B b i j : Nat} {W W' : World} {u v : Value} (h : Below B W W') (hb : B ≤ b) : Below B W ((W'.setCell ⟨b, i, none⟩ u).setCell ⟨b, j, none⟩ v) :=
  (h.setCell (p := ⟨b, i, none⟩) hb u).setCell (p := ⟨b, j, none⟩) hb v
theorem results_ct {fn : Func} {p q : Tmp} {ty : TypeId} (h : fn.results = #[.cell p ty, .tmp q]) (tmps : Array Value) (P : Program) (w : World) :
    (results fn tmps).run P w = ((asAddr (tmps.getD p undef)).run P w).andThen fun a w₁ => ((loadVar ty a).run P w₁).andThen fun v w₂ => .ok (.tuple #[v, tmps.getD q undef]) w₂ := by
  simp only [results, h]
  simp [Sem.run_bind, Result.andThen]
theorem part_set {w0 w W : World} {n b i j : Nat} {s' u v : Value} (h : Part w0 W n s') (hw : w.heap.size ≤ w0.heap.size) (hb : b < w0.heap.size) : Part w ((W.setCell ⟨b, i, none⟩ u).setCell ⟨b, j, none⟩ v) n s' := by
  rcases h with h | ⟨b', cc, K, S, h1, h2, h3, h4⟩
  · exact Or.inl h
  · refine Or.inr ⟨b', cc, K, S, h1, by omega, h3, h4.of_block ?_⟩
    rw [Below.heap_setCell _ _ _ _ (by show b' ≠ b; omega), Below.heap_setCell _ _ _ _ (by show b' ≠ b; omega)]
set_option maxRecDepth 100000 in
set_option maxHeartbeats 2000000 in
theorem copyN_any {C : Nat → Prop} {y : Ty} {p : Option Addr} {c : Nat} {w : World} (h : TS w C y.args (.slice p y.args.length c)) (hn : y.args.length ≤ 2097152) :
    Calls Tryd.prog 115 #[.agg #[.int .i64 y.kind, .slice p y.args.length c]] w (NodeRet y p c w) := by
  obtain ⟨w0, hw0, hs0, hb0, r0, r1⟩ := box_new2 w #[.int .i64 y.kind, .slice p y.args.length c] #[.int .i64 0, .slice none 0 0] 32 32
  obtain ⟨s', w', hrun, hpart, hbel⟩ := app_types (h.keep (hb0.drew)) hn 30
  obtain ⟨p', c', rfl⟩ := part_slice hpart
  have b0 := cell_of_blk r0 0
  have b1 := cell_of_blk r0 1
  have HP := Lib.hid hpart
  have HB := Lib.hid (hb0.drew.trans (hbel.mono hb0.drew.size))
  have hr0' : w'.heap[w.heap.size]? = _ := (hbel.block w.heap.size (by show w.heap.size < w0.heap.size; omega)).trans r0
  have hr1' : w'.heap[w.heap.size + 1]? = _ := (hbel.block (w.heap.size + 1) (by show w.heap.size + 1 < w0.heap.size; omega)).trans r1
  have e0 := cell_of_blk hr0' 0
  have e1 := cell_of_blk hr0' 1
  have d0 := cell_of_blk hr1' 0
  have d1 := cell_of_blk hr1' 1
  have dz := unfrozen_of_blk hr1'
  simp only [List.getElem?_toArray, List.getElem?_cons_zero, List.getElem?_cons_succ] at b0 b1 e0 e1 d0 d1
  have HS := Lib.hid (And.intro hs0 hr1')
  clear h hpart hbel hb0 r0 r1 hr0' hr1' hs0
  go_enter Tryd.func115, Tryd.ntmps115
  go_wp2_with fail
  go_region_law (first | (refine step_run rfl (.const (.slice none 0 0)) (.tmp 7) rfl rfl rfl hrun ?_))
  all_goals
    go_wp2_with fail
    refine bodyPost_ret (v := .tuple #[.agg #[.int .i64 y.kind, .slice p' y.args.length c'], .slice p y.args.length c]) ?_ rfl ?_
    · rw [results_ct rfl]
      go_simp
    · exact ⟨_, rfl, part_set HP.out (by show w.heap.size ≤ w0.heap.size; have := HS.out.1; omega) (by show w.heap.size + 1 < w0.heap.size; have := HS.out.1; omega), set2_below HB.out (by omega)⟩
end Go.Proofs.YtfeijijeohfpgaaDoor
namespace Go.Proofs.YtfeijijeohfpgaaDoor
open Go Go.RowKit
abbrev Jobs := List (Job × Value)
def tcells (st : Jobs) : List Value := st.flatMap fun e => [.int .i64 e.1.x.kind, e.2, .pointer (some ⟨e.1.b, e.1.o, none⟩)]
theorem tcells_length (st : Jobs) : (tcells st).length = st.length * 3 := by
  induction st with
  | nil => rfl
  | cons e st ih => simp only [tcells, List.flatMap_cons, List.length_append, List.length_cons, List.length_nil] at *; omega
theorem tcells_snoc (st : Jobs) (e : Job × Value) : tcells (st ++ [e]) = tcells st ++ [.int .i64 e.1.x.kind, e.2, .pointer (some ⟨e.1.b, e.1.o, none⟩)] := by simp [tcells]
theorem tcells_take (st : Jobs) (e : Job × Value) : (tcells (st ++ [e])).take (st.length * 3) = tcells st := by
  rw [tcells_snoc, ← tcells_length, List.take_left]
theorem tcells_last (st : Jobs) (e : Job × Value) : (tcells (st ++ [e]))[st.length * 3]? = some (.int .i64 e.1.x.kind) ∧ (tcells (st ++ [e]))[st.length * 3 + 1]? = some e.2 ∧ (tcells (st ++ [e]))[st.length * 3 + 2]? = some (.pointer (some ⟨e.1.b, e.1.o, none⟩)) := by
  have h := tcells_length st
  rw [tcells_snoc]
  refine ⟨?_, ?_, ?_⟩ <;> (rw [List.getElem?_append_right (by omega), h]; simp)
def tload (st : Jobs) : Nat := (st.map fun e => e.1.x.nodes).sum
theorem tload_snoc (st : Jobs) (e : Job × Value) : tload (st ++ [e]) = tload st + e.1.x.nodes := by simp [tload]
theorem tload_ge (st : Jobs) : st.length ≤ tload st := by
  induction st with
  | nil => simp [tload]
  | cons e st ih =>
    have := e.1.x.nodes_eq
    simp only [tload, List.map_cons, List.sum_cons, List.length_cons] at *
    omega
theorem infoTk : (Tryd.prog.info? 142).map (fun i => (i.zero, i.size, i.bytes)) = some (some (.agg #[.int .i64 0, .slice none 0 0, .pointer none]), 3, 40) := by kernel_rfl

theorem OS.bound {w : World} {F : Nat → Prop} {ts : List Ty} {v : Value} (h : OS w ts v F) : OS w ts v (fun b => F b ∧ b < w.heap.size) := by
  induction h with
  | none F => exact .none _
  | row K S G hrow hm hF hk hr hG hd ih =>
    exact .row K S (fun j b => G j b ∧ b < w.heap.size) hrow hm ⟨hF, hrow.lt⟩ hk ih (fun j x hj hx => ⟨⟨(hG j x hj hx.1).1, hx.2⟩, (hG j x hj hx.1).2⟩) (fun i j x hi hj hij h1 h2 => hd i j x hi hj hij h1.1 h2.1)

theorem loop_world3 (w : World) (A B A' : Array Value) (tA tB tA' : TypeId) : ∃ wl : World, ((w.alloc (.cells A tA)).alloc (.cells B tB)).alloc (.cells A' tA') = wl ∧ wl.heap.size = w.heap.size + 1 + 1 + 1 ∧ Below w.heap.size w wl ∧
    wl.heap[w.heap.size]? = some (.cells A tA (0, 0)) ∧ wl.heap[w.heap.size + 1]? = some (.cells B tB (0, 0)) ∧ wl.heap[w.heap.size + 1 + 1]? = some (.cells A' tA' (0, 0)) := by
  have s1 : (w.alloc (.cells A tA)).heap.size = w.heap.size + 1 := by simp
  have s2 : ((w.alloc (.cells A tA)).alloc (.cells B tB)).heap.size = w.heap.size + 1 + 1 := by simp
  refine ⟨_, rfl, by simp, (((Below.refl _ w).alloc (Nat.le_refl _) _).alloc (by simp) _).alloc (by simp; omega) _, ?_, ?_, ?_⟩
  · rw [Below.heap_alloc _ _ _ (by simp; omega), Below.heap_alloc _ _ _ (by simp)]
    exact blk_new _ _
  · rw [Below.heap_alloc _ _ _ (by simp), ← s1]
    exact blk_new _ _
  · rw [← s2]
    exact blk_new _ _

theorem cell_setCell_ne {w : World} {b o c q : Nat} {v : Value} (h : ¬ (c = b ∧ q = o)) : (w.setCell ⟨b, o, none⟩ v).cell? ⟨c, q, none⟩ = w.cell? ⟨c, q, none⟩ := by
  by_cases hc : c = b
  · subst hc
    have hq : q ≠ o := fun e => h ⟨rfl, e⟩
    unfold World.cell?
    simp only [World.setCell, Array.getElem?_modify]
    cases hw : w.heap[c]? with
    | none => simp
    | some ob =>
      simp only [if_true, Option.map_some]
      cases ob <;> simp [Array.getElem?_setIfInBounds_ne (Ne.symm hq)]
  · exact World.cell?_of_block (Below.heap_setCell _ _ _ _ hc)

theorem row_ne {w : World} {base : Nat} {e e' : TypeId} {size n g cap b : Nat} {xs : List Value} {cs : Array Value} {fr : Nat × Nat} (h : w.ownsRow base e size (.slice (some ⟨g, 0, none⟩) n cap) n xs) (hb : w.heap[b]? = some (.cells cs e' fr)) (hne : e' ≠ e) : g ≠ b := by
  rintro rfl
  rcases h.2 with h0 | ⟨g', cap', cur, hv, hg, hblk, _⟩
  · exact absurd h0.1 (by simp)
  · simp only [Value.slice.injEq, Option.some.injEq, Addr.mk.injEq, true_and, and_true] at hv
    obtain ⟨rfl, rfl⟩ := hv
    rw [hb] at hblk
    simp only [Option.some.injEq, Obj.cells.injEq] at hblk
    exact hne hblk.2.1

end Go.Proofs.YtfeijijeohfpgaaDoor
namespace Go.Proofs.YtfeijijeohfpgaaDoor
open Go Go.RowKit
abbrev Got := List (Ty × Value)
def ecells (st : Got) : List Value := st.flatMap fun e => [.int .i64 e.1.kind, e.2]
theorem ecells_snoc (st : Got) (e : Ty × Value) : ecells (st ++ [e]) = ecells st ++ [.int .i64 e.1.kind, e.2] := by simp [ecells]
theorem ecells_at (st : Got) (j : Nat) (h : j < st.length) : (ecells st)[j * 2]? = some (.int .i64 st[j].1.kind) ∧ (ecells st)[j * 2 + 1]? = some st[j].2 := by
  induction st generalizing j with
  | nil => simp at h
  | cons e st ih =>
    cases j with
    | zero => simp [ecells]
    | succ j =>
      have := ih j (by simpa using h)
      have e1 : ecells (e :: st) = [.int .i64 e.1.kind, e.2] ++ ecells st := by simp [ecells]
      rw [e1, List.getElem?_append_right (by simp; omega), List.getElem?_append_right (by simp; omega)]
      simp only [List.length_cons, List.length_nil]
      rw [show (j + 1) * 2 - (0 + 1 + 1) = j * 2 by omega, show (j + 1) * 2 + 1 - (0 + 1 + 1) = j * 2 + 1 by omega]
      exact this
structure Grow (w : World) (base : Nat) (v : Value) (st : Got) : Prop where
  own : w.ownsRow base 32 2 v st.length (ecells st)
  ts : ∀ e ∈ st, TS w (fun z => base ≤ z ∧ v.ownBlock ≠ some z) e.1.args e.2

theorem Grow.start (w : World) (base : Nat) : Grow w base (.slice none 0 0) [] := ⟨World.ownsRow_nil w base _ 2, fun e he => by cases he⟩
theorem Grow.below {w w' : World} {base : Nat} {v : Value} {st : Got} (h : Grow w base v st) (hb : Below w.heap.size w w') : Grow w' base v st := ⟨row_below h.own hb, fun e he => (h.ts e he).keep hb⟩
theorem Grow.app {w w' : World} {base : Nat} {v : Value} {st : Got} {g cap : Nat} {x : Ty} {s : Value} (h : Grow w base v st) (hA : Appd w w' base 32 2 v st.length (ecells st) [.int .i64 x.kind, s] g cap)
    (hx : TS w (fun z => base ≤ z ∧ v.ownBlock ≠ some z) x.args s) : Grow w' base (.slice (some ⟨g, 0, none⟩) (st.length + 1) cap) (st ++ [(x, s)]) := by
  have key : ∀ {ts : List Ty} {s : Value}, TS w (fun z => base ≤ z ∧ v.ownBlock ≠ some z) ts s → TS w' (fun z => base ≤ z ∧ (Value.slice (some ⟨g, 0, none⟩) (st.length + 1) cap).ownBlock ≠ some z) ts s := fun h1 =>
    (h1.mono (C' := fun z => base ≤ z ∧ v.ownBlock ≠ some z ∧ z < w.heap.size) (fun b hb hl => ⟨hb.1, hb.2, hl⟩)).stays ⟨hA.size, fun b hb hl => (hA.kept b hl hb.2.1).1⟩ |>.mono (fun b hb _ => ⟨hb.1, fun e => (hA.kept b hb.2.2 hb.2.1).2 (by simpa [Value.ownBlock] using e)⟩)
  refine ⟨?_, fun e he => ?_⟩
  · rw [List.length_append, ecells_snoc]
    exact hA.own
  · rcases List.mem_append.1 he with he | he
    · exact key (h.ts e he)
    · simp only [List.mem_singleton] at he
      subst he
      exact key hx
theorem Grow.set {w : World} {base : Nat} {v : Value} {st : Got} (h : Grow w base v st) (b o : Nat) (x : Value) (hb : b < base) : Grow (w.setCell ⟨b, o, none⟩ x) base v st := by
  refine ⟨⟨h.own.1, ?_⟩, fun e he => (h.ts e he).stays (setCell_stays _ _ _ _ _ (by omega))⟩
  rcases h.own.2 with h0 | ⟨g, cap, cur, rfl, hg, hblk, r⟩
  · exact Or.inl h0
  · exact Or.inr ⟨g, cap, cur, rfl, hg, (Below.heap_setCell _ _ _ _ (by show g ≠ b; omega)).trans hblk, r⟩
theorem Grow.all {w : World} {base : Nat} {v : Value} {st : Got} (h : Grow w base v st) : TS w (fun z => base ≤ z) (st.map (·.1)) v := by
  rcases h.own.2 with ⟨rfl, h0⟩ | ⟨g, cap, cur, rfl, hg, hblk, h1, h2, h3, h4⟩
  · obtain rfl := List.eq_nil_of_length_eq_zero h0
    exact .nil _ _
  · by_cases hz : st.length = 0
    · obtain rfl := List.eq_nil_of_length_eq_zero hz
      exact .nil _ _
    · have hlt := (Array.getElem?_eq_some_iff.1 hblk).1
      have hl : (st.map (·.1)).length = st.length := List.length_map _
      have at_ : ∀ j x, (st.map (·.1))[j]? = some x → ∃ hj : j < st.length, x = st[j].1 := fun j x hj => by
        rw [List.getElem?_map, Option.map_eq_some_iff] at hj
        obtain ⟨e, he, rfl⟩ := hj
        obtain ⟨hj, rfl⟩ := List.getElem?_eq_some_iff.1 he
        exact ⟨hj, rfl⟩
      have key := TS.cons (w := w) (C := fun z => base ≤ z) (ts := st.map (·.1)) (b := g) (o := 0) (c := cap) (fun j => (st[j]?.getD (.mk 0 [], .nilIface)).2) (by omega) (by omega) (by unfold maxLen at h2; omega) hg hlt
        (fun j x hj => by
          obtain ⟨hj', rfl⟩ := at_ j x hj
          rw [Nat.zero_add, h.own.cellAt (j * 2) (by omega), (ecells_at st j hj').1])
        (fun j x hj => by
          obtain ⟨hj', rfl⟩ := at_ j x hj
          rw [Nat.zero_add, h.own.cellAt (j * 2 + 1) (by omega), (ecells_at st j hj').2, List.getElem?_eq_getElem hj']
          rfl)
        (fun j x hj => by
          obtain ⟨hj', rfl⟩ := at_ j x hj
          rw [List.getElem?_eq_getElem hj']
          exact (h.ts _ (List.getElem_mem hj')).mono (fun b hb _ => hb.1))
      rw [hl] at key
      exact key
def NewR (t : Ty) (w : World) (e : Ending) (w' : World) : Prop := ∃ v, e = .returned v ∧ TT w' (fun z => w.heap.size ≤ z) t v ∧ Below w.heap.size w w'

end Go.Proofs.YtfeijijeohfpgaaDoor
namespace Go.Proofs.YtfeijijeohfpgaaDoor
open Go Go.RowKit

set_option maxRecDepth 100000 in
set_option maxHeartbeats 2000000 in
theorem copySp_any {w0 : World} {C : Nat → Prop} {ts : List Ty} {v : Value} (h : TS w0 C ts v) : ∀ (w : World) (q : Int), Stays C w0 w → nodesS ts ≤ 1048576 →
    Calls Tryd.prog 73 #[.agg #[.int .i64 q, v]] w (NewR (Ty.mk q ts) w) := by
  obtain ⟨i0, hi, hz0, hz1, hz2⟩ := info_parts infoTy
  refine TS.ind (motive := fun ts v => ∀ (w : World) (q : Int), Stays C w0 w → nodesS ts ≤ 1048576 → Calls Tryd.prog 73 #[.agg #[.int .i64 q, v]] w (NewR (Ty.mk q ts) w)) ?_ h
  intro ts p c hl H w q hst hn
  have HH := Lib.hid H
  have HST := Lib.hid hst
  have hlen := nodesS_ge ts
  clear H hst
  go_enter Tryd.func73, Tryd.ntmps73
  have HB0 := Lib.hid ((((Below.refl _ w).alloc (Nat.le_refl _) (.cells #[.int .i64 q, .slice p ts.length c] 32)).alloc (by simp) (.cells #[.int .i64 0, .slice none 0 0] 32)).alloc (by simp; omega) (.cells #[.int .i64 q, .slice none 0 0] 32))
  have hK := loop_world3 w #[.int .i64 q, .slice p ts.length c] #[.int .i64 0, .slice none 0 0] #[.int .i64 q, .slice none 0 0] 32 32 32
  have HK := Lib.hid hK
  clear hK
  go_wp2_with fail
  go_loopw [4] (fun i wr => ∃ (k : Nat) (es : Got) (v : Value), k ≤ ts.length ∧ i = .int .i64 k ∧ es.map (·.1) = ts.take k ∧ Grow wr (w.heap.size + 3) v es ∧ wr.heap[w.heap.size]? = some (.cells #[.int .i64 q, .slice p ts.length c] 32 (0, 0)) ∧
    wr.heap[w.heap.size + 1]? = some (.cells #[.int .i64 0, .slice none 0 0] 32 (0, 0)) ∧ wr.heap[w.heap.size + 1 + 1]? = some (.cells #[.int .i64 q, v] 32 (0, 0)) ∧ Below w.heap.size w wr ∧ w.heap.size + 3 ≤ wr.heap.size) (fun i _ => ts.length - (intOf i).toNat)
  case atStart =>
    obtain ⟨wl, hwl, hsz, hbl, q0, q1, q2⟩ := HK.out
    rw [hwl]
    exact ⟨0, [], _, Nat.zero_le _, rfl, by simp, Grow.start _ _, q0, q1, q2, hbl, by omega⟩
  case round =>
    obtain ⟨k, es, v, hk, rfl, hes, hgr, hx0, hx1, hx2, hbr, hsz⟩ := hrel
    have HES := Lib.hid hes
    have HGR := Lib.hid hgr
    have HX0 := Lib.hid hx0
    have HX1 := Lib.hid hx1
    have HX2 := Lib.hid hx2
    have HBR := Lib.hid hbr
    have d0 := cell_of_blk hx0 1
    have d2 := cell_of_blk hx2 0
    have d3 := cell_of_blk hx2 1
    have dz := unfrozen_of_blk hx2
    have r0 := cell_of_blk hx1 0
    have r1 := cell_of_blk hx1 1
    have rz := unfrozen_of_blk hx1
    simp only [List.getElem?_toArray, List.getElem?_cons_zero, List.getElem?_cons_succ] at d0 d2 d3 r0 r1
    clear hes hgr hx0 hx1 hx2 hbr
    by_cases hlk : k < ts.length
    · obtain ⟨b, o, p', c', rfl, hcs, hT, hI⟩ := HH.out k _ (List.getElem?_eq_getElem hlk)
      obtain ⟨f1, f2⟩ := hcs wr (HST.out.trans (Stays.of_below HBR.out))
      have hnk : nodesS ts[k].args ≤ 1048576 := by
        have h1 := nodesS_at ts k hlk
        have h2 := ts[k].nodes_eq
        omega
      have HC := Lib.hid (fun (W : World) (hW : Below w.heap.size w W) => hI W ts[k].kind (HST.out.trans (Stays.of_below hW)) hnk)
      rw [show Ty.mk ts[k].kind ts[k].args = ts[k] from (Ty.eta _).symm] at HC
      have HG := Lib.hid (fun (W : World) (hW : Below wr.drew.heap.size wr.drew W) => HGR.out.below ((Below.refl wr.heap.size wr).drew.trans hW))
      have HD := Lib.hid (fun (W : World) (hW : Below wr.drew.heap.size wr.drew W) => (cell_of_blk ((((Below.refl wr.heap.size wr).drew.trans hW).block _ (Array.getElem?_eq_some_iff.1 HX2.out).1).trans HX2.out) 1 : W.cell? ⟨w.heap.size + 1 + 1, 1, none⟩ = some v))
      have HDZ := Lib.hid (fun (W : World) (hW : Below wr.drew.heap.size wr.drew W) => unfrozen_of_blk ((((Below.refl wr.heap.size wr).drew.trans hW).block _ (Array.getElem?_eq_some_iff.1 HX2.out).1).trans HX2.out))
      have hek : es.length = k := by
        have := congrArg List.length HES.out
        simp only [List.length_map, List.length_take] at this
        omega
      have HEK := Lib.hid hek
      have hbr' := HBR.out
      have hbw : b < w.heap.size := World.block_lt_of_cell? w _ (hcs w HST.out).1
      have HKA := Lib.hid (fun (W : World) (hW : Below wr.drew.heap.size wr.drew W) (x1 x2 : Value) (w' : World) (g2 cap2 : Nat) (hA : Appd W w' (w.heap.size + 3) 32 2 v es.length (ecells es) [x1, x2] g2 cap2) =>
        have kk : ∀ {p : Addr} {u : Value}, wr.cell? p = some u → p.block < w.heap.size + 3 → w'.cell? p = some u := fun {p u} hp hlt =>
          keepApp hA (((((Below.refl wr.heap.size wr).drew.trans hW).cell (World.block_lt_of_cell? wr _ hp)).trans hp) : W.cell? p = some u) (fun e => by have := (HGR.out.own.lt _ e).1; omega)
        (⟨kk d0 (by show w.heap.size < _; omega), kk f1 (by show b < _; omega), kk f2 (by show b < _; omega)⟩ :
          w'.cell? ⟨w.heap.size, 1, none⟩ = some (.slice (some ⟨b, o, none⟩) ts.length c) ∧ w'.cell? ⟨b, o + k * 2, none⟩ = some (.int .i64 ts[k].kind) ∧ w'.cell? ⟨b, o + k * 2 + 1, none⟩ = some (.slice p' ts[k].args.length c')))
      have HKB := Lib.hid (fun (W : World) (hW : Below wr.drew.heap.size wr.drew W) (x1 x2 : Value) (w' : World) (g2 cap2 : Nat) (hA : Appd W w' (w.heap.size + 3) 32 2 v es.length (ecells es) [x1, x2] g2 cap2) =>
        have hB := (((Below.refl wr.heap.size wr).drew.trans hW).block _ (Array.getElem?_eq_some_iff.1 HX2.out).1).trans HX2.out
        (((hA.kept (w.heap.size + 1 + 1) (Array.getElem?_eq_some_iff.1 hB).1 (fun e => by have := (HGR.out.own.lt _ e).1; omega)).1.trans hB) : w'.heap[w.heap.size + 1 + 1]? = some (.cells #[.int .i64 q, v] 32 (0, 0))))
      have i0' : (0 : Int) ≤ (k : Int) := Int.natCast_nonneg _
      have i1' : (k : Int) < (ts.length : Int) := by omega
      clear hcs hT hI r0 r1 rz d2 hek
      go_wp2_with fail
      go_region_law (first
          | (refine step_app1 (w0 := w1) (v := v) (n := es.length) (xs := ecells es) rfl (.tmp 16) (.tmp 23) rfl Tryd.underlying30 hi hz0 hz1 hz2 rfl (by decide) rfl (HG.out w1 hb1).own _ rfl (by simp) rfl (fun u hu => by simp at hu; rcases hu with rfl | rfl <;> rfl) (by have := HEK.out; unfold maxLen; omega) (by have := HEK.out; omega) (by have := hb1.size; simp at this; omega) ?_; intro w' g2 cap2 hA; have d6b := HKB.out _ hb1 _ _ _ _ _ hA; have d6 : w'.cell? ⟨w.heap.size + 1 + 1, 1, none⟩ = some v := cell_of_blk d6b 1; have d6z := unfrozen_of_blk d6b)
          | (go_simp; go_at_call 73; refine (HC.out _ hbr'.drew).mono ?_; rintro e w1 ⟨v1, rfl, ⟨s1, rfl, hs1⟩, hb1⟩; obtain ⟨p1, c1, rfl⟩ := hs1.form; have d4 := HD.out w1 hb1; have d4z := HDZ.out w1 hb1; have d5 := fun (o : Obj) => (((Below.refl w1.heap.size w1).alloc (Nat.le_refl _) o).cell (World.block_lt_of_cell? w1 _ d4)).trans d4))
      all_goals
        have HA := Lib.hid hA
        have HS1 := Lib.hid hs1
        have HB1 := Lib.hid hb1
        clear hA hs1 hb1 d4 d4z d5 d6 d6b d6z
        go_wp2_with fail
        go_roundw
        case rel =>
          have hd := (Below.refl wr.heap.size wr).drew.trans HB1.out
          have hsw := hd.size
          have hown := HGR.out.own.lt
          have x0 := (hd.block _ (Array.getElem?_eq_some_iff.1 HX0.out).1).trans HX0.out
          have x1 := (hd.block _ (Array.getElem?_eq_some_iff.1 HX1.out).1).trans HX1.out
          have x0' := (HA.out.kept w.heap.size (Array.getElem?_eq_some_iff.1 x0).1 (fun e => by have := (hown _ e).1; omega)).1.trans x0
          have x1' := (HA.out.kept (w.heap.size + 1) (Array.getElem?_eq_some_iff.1 x1).1 (fun e => by have := (hown _ e).1; omega)).1.trans x1
          refine ⟨k + 1, es ++ [(ts[k], .slice p1 ts[k].args.length c1)], .slice (some ⟨g2, 0, none⟩) (es.length + 1) cap2, by omega, by go_num, ?_, ?_, ?_, ?_, ?_, ?_, ?_⟩
          · rw [List.map_append, HES.out, List.take_add_one, List.getElem?_eq_getElem hlk]
            rfl
          · refine ((HG.out w1 HB1.out).app HA.out (HS1.out.mono fun z hz _ => ⟨?_, fun e => ?_⟩)).set _ _ _ (by omega)
            · have : wr.heap.size ≤ z := hz
              omega
            · have h1 : wr.heap.size ≤ z := hz
              have h2 := (hown _ e).2
              omega
          · exact (Below.heap_setCell _ _ _ _ (by show w.heap.size ≠ w.heap.size + 1 + 1; omega)).trans x0'
          · exact (Below.heap_setCell _ _ _ _ (by show w.heap.size + 1 ≠ w.heap.size + 1 + 1; omega)).trans x1'
          · rw [Go.Joins.block_setCell (HKB.out _ HB1.out _ _ _ _ _ HA.out) _]
            rfl
          · exact (HBR.out.trans ((hd.mono HBR.out.size).trans (HA.out.below.mono (by omega)))).setCell (p := ⟨w.heap.size + 1 + 1, 1, none⟩) (by show w.heap.size ≤ w.heap.size + 1 + 1; omega) _
          · have := HA.out.size
            simp [World.setCell]
            omega
        case measure => simp [intOf]; omega
    · obtain rfl : k = ts.length := by omega
      have hT := HGR.out.all
      rw [HES.out, List.take_length] at hT
      obtain ⟨pv, cv, hv⟩ := hT.form
      rw [hv] at d3 hT
      have HT := Lib.hid hT
      clear hT hv HES HGR HX2
      go_wp2_with fail
      refine bodyPost_ret (v := .agg #[.int .i64 q, .slice pv ts.length cv]) ?_ rfl ?_
      · rw [results_cell1 rfl]
        go_simp
      · have hst : ∀ F : Nat → Prop, ¬ F (w.heap.size + 1) → Stays F wr ((wr.setCell ⟨w.heap.size + 1, 0, none⟩ (.int .i64 q)).setCell ⟨w.heap.size + 1, 1, none⟩ (.slice pv ts.length cv)) := fun F hF => (setCell_stays _ _ _ _ F hF).trans (setCell_stays _ _ _ _ F hF)
        refine ⟨_, rfl, ⟨_, rfl, (HT.out.stays (hst _ (by omega))).mono (fun b hb _ => by omega)⟩, (HBR.out.setCell (p := ⟨w.heap.size + 1, 0, none⟩) (by show w.heap.size ≤ w.heap.size + 1; omega) _).setCell (p := ⟨w.heap.size + 1, 1, none⟩) (by show w.heap.size ≤ w.heap.size + 1; omega) _⟩
end Go.Proofs.YtfeijijeohfpgaaDoor
namespace Go.Proofs.YtfeijijeohfpgaaDoor
open Go Go.RowKit

end Go.Proofs.YtfeijijeohfpgaaDoor
namespace Go.Proofs.YtfeijijeohfpgaaDoor
open Go Go.RowKit

theorem al_cell {w : World} {b i : Nat} {v : Value} (h : w.cell? ⟨b, i, none⟩ = some v) (o : Obj) : (w.alloc o).cell? ⟨b, i, none⟩ = some v :=
  (((Below.refl w.heap.size w).alloc (Nat.le_refl _) o).cell (World.block_lt_of_cell? w _ h)).trans h
theorem copyT_any {C : Nat → Prop} {t : Ty} {v : Value} {w : World} (h : TT w C t v) (hn : nodesS t.args ≤ 1048576) : Calls Tryd.prog 73 #[v] w (NewR t w) := by
  obtain ⟨s, rfl, h⟩ := h
  have := copySp_any h w t.kind (Stays.refl _ _) hn
  rwa [← Ty.eta t] at this

end Go.Proofs.YtfeijijeohfpgaaDoor
namespace Go.Proofs.YtfeijijeohfpgaaDoor
open Go Go.RowKit

theorem cp_keep {wl W W' : World} {a : Nat} {v0 v1 v2 v3 v4 v5 v6 v7 : Value} (hb : Below W.heap.size W W') (h : Below wl.heap.size wl W ∧ W.cell? ⟨a, 0, none⟩ = some v0 ∧ W.cell? ⟨a, 1, none⟩ = some v1 ∧ W.cell? ⟨a, 2, none⟩ = some v2 ∧ W.cell? ⟨a, 3, none⟩ = some v3 ∧ W.cell? ⟨a, 4, none⟩ = some v4 ∧ W.cell? ⟨a, 5, none⟩ = some v5 ∧ W.cell? ⟨a, 6, none⟩ = some v6 ∧ W.cell? ⟨a, 7, none⟩ = some v7) : Below wl.heap.size wl W' ∧ W'.cell? ⟨a, 0, none⟩ = some v0 ∧ W'.cell? ⟨a, 1, none⟩ = some v1 ∧ W'.cell? ⟨a, 2, none⟩ = some v2 ∧ W'.cell? ⟨a, 3, none⟩ = some v3 ∧ W'.cell? ⟨a, 4, none⟩ = some v4 ∧ W'.cell? ⟨a, 5, none⟩ = some v5 ∧ W'.cell? ⟨a, 6, none⟩ = some v6 ∧ W'.cell? ⟨a, 7, none⟩ = some v7 := by
  obtain ⟨h, h0, h1, h2, h3, h4, h5, h6, h7⟩ := h
  exact ⟨h.trans (hb.mono h.size), keepN' hb h0, keepN' hb h1, keepN' hb h2, keepN' hb h3, keepN' hb h4, keepN' hb h5, keepN' hb h6, keepN' hb h7⟩
theorem cp_set {wl W : World} {a b i : Nat} {u v0 v1 v2 v3 v4 v5 v6 v7 : Value} (h : Below wl.heap.size wl W ∧ W.cell? ⟨a, 0, none⟩ = some v0 ∧ W.cell? ⟨a, 1, none⟩ = some v1 ∧ W.cell? ⟨a, 2, none⟩ = some v2 ∧ W.cell? ⟨a, 3, none⟩ = some v3 ∧ W.cell? ⟨a, 4, none⟩ = some v4 ∧ W.cell? ⟨a, 5, none⟩ = some v5 ∧ W.cell? ⟨a, 6, none⟩ = some v6 ∧ W.cell? ⟨a, 7, none⟩ = some v7) (hb : wl.heap.size ≤ b) (ha : a ≠ b) : Below wl.heap.size wl (W.setCell ⟨b, i, none⟩ u) ∧ (W.setCell ⟨b, i, none⟩ u).cell? ⟨a, 0, none⟩ = some v0 ∧ (W.setCell ⟨b, i, none⟩ u).cell? ⟨a, 1, none⟩ = some v1 ∧ (W.setCell ⟨b, i, none⟩ u).cell? ⟨a, 2, none⟩ = some v2 ∧ (W.setCell ⟨b, i, none⟩ u).cell? ⟨a, 3, none⟩ = some v3 ∧ (W.setCell ⟨b, i, none⟩ u).cell? ⟨a, 4, none⟩ = some v4 ∧ (W.setCell ⟨b, i, none⟩ u).cell? ⟨a, 5, none⟩ = some v5 ∧ (W.setCell ⟨b, i, none⟩ u).cell? ⟨a, 6, none⟩ = some v6 ∧ (W.setCell ⟨b, i, none⟩ u).cell? ⟨a, 7, none⟩ = some v7 := by
  obtain ⟨h, h0, h1, h2, h3, h4, h5, h6, h7⟩ := h
  have k : ∀ {j : Nat} {v : Value}, W.cell? ⟨a, j, none⟩ = some v → (W.setCell ⟨b, i, none⟩ u).cell? ⟨a, j, none⟩ = some v := fun hp => (World.cell?_of_block (heap_setCell_other W ⟨b, i, none⟩ a u ha)).trans hp
  exact ⟨h.setCell (p := ⟨b, i, none⟩) hb _, k h0, k h1, k h2, k h3, k h4, k h5, k h6, k h7⟩
def Cpd (wl : World) (t : Tm) (s3 : Value) (W : World) : Prop := ∃ (bx : Nat) (p1 : Option Addr) (c1 : Nat) (p2 : Option Addr) (c2 : Nat), s3 = .pointer (some ⟨bx, 0, none⟩) ∧
  W.heap[bx]? = some (.cells #[.int .i64 t.kind, .string t.name, .string t.other, .int .i64 t.n, .int .i64 t.ty.kind, .slice p1 t.ty.args.length c1, .int .i64 t.res.kind, .slice p2 t.res.args.length c2, .slice none 0 0] 35 (0, 0)) ∧ wl.heap.size ≤ bx ∧
  TS W (fun z => wl.heap.size ≤ z ∧ z ≠ bx) t.ty.args (.slice p1 t.ty.args.length c1) ∧ TS W (fun z => wl.heap.size ≤ z ∧ z ≠ bx) t.res.args (.slice p2 t.res.args.length c2) ∧ Below wl.heap.size wl W
theorem cpd_A {wl w3 w4 : World} {t : Tm} {p1 p2 : Option Addr} {c1 c2 : Nat} (hb1 : Below wl.heap.size wl w3) (hs1 : TS w3 (fun z => wl.heap.size ≤ z) t.ty.args (.slice p1 t.ty.args.length c1)) (hb2 : Below w3.heap.size w3 w4) (hs2 : TS w4 (fun z => w3.heap.size ≤ z) t.res.args (.slice p2 t.res.args.length c2)) :
    Cpd wl t (.pointer (some ⟨w4.heap.size, 0, none⟩)) (w4.alloc (.cells #[.int .i64 t.kind, .string t.name, .string t.other, .int .i64 t.n, .int .i64 t.ty.kind, .slice p1 t.ty.args.length c1, .int .i64 t.res.kind, .slice p2 t.res.args.length c2, .slice none 0 0] 35)) := by
  have l1 := hb1.size
  have l2 := hb2.size
  refine ⟨_, p1, c1, p2, c2, rfl, blk_new w4 _, by omega, ?_, ?_, (hb1.trans (hb2.mono l1)).trans ((al_below w4 _).mono (by omega))⟩
  · exact (((hs1.mono (C' := fun z => wl.heap.size ≤ z ∧ z ≠ w4.heap.size) (fun z hz hl => ⟨hz, by omega⟩)).keep hb2).keep (al_below w4 _))
  · exact ((hs2.mono (C' := fun z => wl.heap.size ≤ z ∧ z ≠ w4.heap.size) (fun z hz hl => ⟨by omega, by omega⟩)).keep (al_below w4 _))
theorem cpd_set {wl w4 : World} {t : Tm} {p1 p2 : Option Addr} {c1 c2 bx : Nat} (zb : w4.heap[bx]? = some (.cells #[.int .i64 0, .string ⟨#[]⟩, .string ⟨#[]⟩, .int .i64 0, .int .i64 0, .slice none 0 0, .int .i64 0, .slice none 0 0, .slice none 0 0] 35 (0, 0))) (hl : wl.heap.size ≤ bx) (h1 : TS w4 (fun z => wl.heap.size ≤ z ∧ z ≠ bx) t.ty.args (.slice p1 t.ty.args.length c1)) (h2 : TS w4 (fun z => wl.heap.size ≤ z ∧ z ≠ bx) t.res.args (.slice p2 t.res.args.length c2)) (hb : Below wl.heap.size wl w4) :
    Cpd wl t (.pointer (some ⟨bx, 0, none⟩)) (((((((((w4.setCell ⟨bx, 0, none⟩ (.int .i64 t.kind)).setCell ⟨bx, 1, none⟩ (.string t.name)).setCell ⟨bx, 2, none⟩ (.string t.other)).setCell ⟨bx, 3, none⟩ (.int .i64 t.n)).setCell ⟨bx, 4, none⟩ (.int .i64 t.ty.kind)).setCell ⟨bx, 5, none⟩ (.slice p1 t.ty.args.length c1)).setCell ⟨bx, 6, none⟩ (.int .i64 t.res.kind)).setCell ⟨bx, 7, none⟩ (.slice p2 t.res.args.length c2)).setCell ⟨bx, 8, none⟩ (.slice none 0 0)) := by
  have hst := setN_stays [.int .i64 t.kind, .string t.name, .string t.other, .int .i64 t.n, .int .i64 t.ty.kind, .slice p1 t.ty.args.length c1, .int .i64 t.res.kind, .slice p2 t.res.args.length c2, .slice none 0 0] (fun z => wl.heap.size ≤ z ∧ z ≠ bx) w4 bx 0 (by simp)
  have hbl := setN_below [.int .i64 t.kind, .string t.name, .string t.other, .int .i64 t.n, .int .i64 t.ty.kind, .slice p1 t.ty.args.length c1, .int .i64 t.res.kind, .slice p2 t.res.args.length c2, .slice none 0 0] wl.heap.size w4 bx 0 hl
  have hbk : (setN w4 bx 0 [.int .i64 t.kind, .string t.name, .string t.other, .int .i64 t.n, .int .i64 t.ty.kind, .slice p1 t.ty.args.length c1, .int .i64 t.res.kind, .slice p2 t.res.args.length c2, .slice none 0 0]).heap[bx]? = some (.cells #[.int .i64 t.kind, .string t.name, .string t.other, .int .i64 t.n, .int .i64 t.ty.kind, .slice p1 t.ty.args.length c1, .int .i64 t.res.kind, .slice p2 t.res.args.length c2, .slice none 0 0] 35 (0, 0)) := by
    rw [setN_block _ _ _ _ _ _ zb]
    simp [setA]
  rw [setN9] at hst hbl hbk
  exact ⟨_, p1, c1, p2, c2, rfl, hbk, hl, h1.stays hst, h2.stays hst, hb.trans hbl⟩
def CopyRet (t : Tm) (w : World) (e : Ending) (w' : World) : Prop := ∃ tp tc rp rc p c xs, e = .returned (tmV t tp tc rp rc p c) ∧ NewTm w' w.heap.size (fun z => w.heap.size ≤ z) t tp tc rp rc p c xs ∧ Below w.heap.size w w'
structure CInv (wl : World) (bx : Nat) (W : World) (t : Tm) (tp : Option Addr) (tc : Nat) (rp : Option Addr) (rc : Nat) (p : Option Addr) (c : Nat) (xs : List Value) : Prop where
  below : Below wl.heap.size wl W
  box : W.heap[bx]? = some (.cells (tmC t tp tc rp rc p c) 35 (0, 0))
  new : NewTm W wl.heap.size (fun z => wl.heap.size ≤ z ∧ z ≠ bx) t tp tc rp rc p c xs
  lt : wl.heap.size ≤ bx
section
variable {w wl W W' : World} {bx : Nat} {t : Tm} {k n : Int} {a o : ByteArray} {ty res : Ty} {ts : List Tm} {tp rp p : Option Addr} {tc rc c : Nat} {xs : List Value}
theorem CInv.bxlt (h : CInv wl bx W t tp tc rp rc p c xs) : bx < W.heap.size := (Array.getElem?_eq_some_iff.1 h.box).1
theorem CInv.keep (h : CInv wl bx W t tp tc rp rc p c xs) (hb : Below W.heap.size W W') : CInv wl bx W' t tp tc rp rc p c xs :=
  ⟨h.below.trans (hb.mono h.below.size), (hb.block _ h.bxlt).trans h.box, h.new.stays (.of_below hb), h.lt⟩
theorem CInv.app {g cap : Nat} {x : Tm} {us : List Value} (h : CInv wl bx W (.mk k a o n ty res ts) tp tc rp rc p c xs)
    (hA : Appd W W' wl.heap.size 35 9 (.slice p ts.length c) ts.length xs us g cap) (hx : MS W (fun z => (wl.heap.size ≤ z ∧ z ≠ bx) ∧ (Value.slice p ts.length c).ownBlock ≠ some z) x.ds us) :
    CInv wl bx (W'.setCell ⟨bx, 8, none⟩ (.slice (some ⟨g, 0, none⟩) (ts.length + 1) cap)) (.mk k a o n ty res (ts ++ [x])) tp tc rp rc (some ⟨g, 0, none⟩) cap (xs ++ us) := by
  have hl := h.lt
  have hob : (Value.slice p ts.length c).ownBlock ≠ some bx := fun e => (h.new.row.blk _ e).2 rfl
  have hkb := hA.kept bx h.bxlt hob
  have hblk := hkb.1.trans h.box
  have hgb : wl.heap.size ≤ g ∧ g ≠ bx := ⟨(hA.own.lt g rfl).1, hkb.2⟩
  have go : ∀ {us : List Ty} {v : Value}, TS W (fun z => (wl.heap.size ≤ z ∧ z ≠ bx) ∧ (Value.slice p ts.length c).ownBlock ≠ some z) us v → TS (W'.setCell ⟨bx, 8, none⟩ (.slice (some ⟨g, 0, none⟩) (ts.length + 1) cap)) (fun z => (wl.heap.size ≤ z ∧ z ≠ bx) ∧ (Value.slice (some ⟨g, 0, none⟩) (ts.length + 1) cap).ownBlock ≠ some z) us v := fun {us v} hd => by
    refine (((hd.mono (C' := fun z => ((wl.heap.size ≤ z ∧ z ≠ bx) ∧ (Value.slice p ts.length c).ownBlock ≠ some z) ∧ z < W.heap.size) (fun _ hz hl => ⟨hz, hl⟩)).stays (w' := W') ⟨hA.size, fun z hz hl => (hA.kept z hl hz.1.2).1⟩).stays (setCell_stays _ _ _ _ _ (fun hz => hz.1.1.2 rfl))).mono (fun z hz _ => ⟨hz.1.1, fun e => ?_⟩)
    have := (hA.kept z hz.2 hz.1.2).2
    simp [Value.ownBlock] at e
    omega
  have hrow := (h.new.row.app hA hgb hx).stays (setCell_stays W' bx 8 (.slice (some ⟨g, 0, none⟩) (ts.length + 1) cap) _ (by simp))
  have e1 : (ts ++ [x]).length = ts.length + 1 := by simp
  refine ⟨(h.below.trans hA.below).setCell (p := ⟨bx, 8, none⟩) hl _, ?_, ⟨?_, ?_, ?_⟩, h.lt⟩
  · rw [Go.Joins.block_setCell hblk _]
    show _ = some (Obj.cells (tmC (.mk k a o n ty res (ts ++ [x])) tp tc rp rc (some ⟨g, 0, none⟩) cap) _ _)
    simp only [tmC, Tm.args, e1]
    rfl
  · show TS _ (fun z => _ ∧ (Value.slice _ (ts ++ [x]).length _).ownBlock ≠ _) _ _
    rw [e1]; exact go h.new.ty
  · show TS _ (fun z => _ ∧ (Value.slice _ (ts ++ [x]).length _).ownBlock ≠ _) _ _
    rw [e1]; exact go h.new.res
  · show RowM _ _ _ (.slice _ (ts ++ [x]).length _) _ _
    rw [e1]; exact hrow
theorem CInv.facts (h : CInv wl bx W (.mk k a o n ty res ts) tp tc rp rc p c xs) :
    (W.cell? ⟨bx, 0, none⟩ = some (.int .i64 k) ∧ W.cell? ⟨bx, 1, none⟩ = some (.string a) ∧ W.cell? ⟨bx, 2, none⟩ = some (.string o) ∧ W.cell? ⟨bx, 3, none⟩ = some (.int .i64 n) ∧ W.cell? ⟨bx, 4, none⟩ = some (.int .i64 ty.kind) ∧ W.cell? ⟨bx, 5, none⟩ = some (.slice tp ty.args.length tc) ∧ W.cell? ⟨bx, 6, none⟩ = some (.int .i64 res.kind) ∧ W.cell? ⟨bx, 7, none⟩ = some (.slice rp res.args.length rc) ∧ W.cell? ⟨bx, 8, none⟩ = some (.slice p ts.length c)) ∧ ∀ i, W.frozen? ⟨bx, i, none⟩ = false :=
  ⟨⟨cell_of_blk h.box 0, cell_of_blk h.box 1, cell_of_blk h.box 2, cell_of_blk h.box 3, cell_of_blk h.box 4, cell_of_blk h.box 5, cell_of_blk h.box 6, cell_of_blk h.box 7, cell_of_blk h.box 8⟩, unfrozen_of_blk h.box⟩
theorem CInv.own (h : CInv wl bx W (.mk k a o n ty res ts) tp tc rp rc p c xs) : W.ownsRow wl.heap.size 35 9 (.slice p ts.length c) ts.length xs := h.new.row.own
theorem cell8 (h : W.heap[bx]? = some (.cells (tmC (.mk k a o n ty res ts) tp tc rp rc p c) 35 (0, 0))) : W.cell? ⟨bx, 8, none⟩ = some (.slice p ts.length c) := cell_of_blk h 8
theorem CInv.fin (h : CInv wl bx W t tp tc rp rc p c xs) (hb : Below w.heap.size w wl) (hs : wl.heap.size = w.heap.size + 2) :
    CopyRet t w (.returned (tmV t tp tc rp rc p c)) (setN W (w.heap.size + 1) 0 [.int .i64 t.kind, .string t.name, .string t.other, .int .i64 t.n, .int .i64 t.ty.kind, .slice tp t.ty.args.length tc, .int .i64 t.res.kind, .slice rp t.res.args.length rc, .slice p t.args.length c]) :=
  ⟨tp, tc, rp, rc, p, c, xs, rfl, (h.new.stays (setN_stays _ (fun z => wl.heap.size ≤ z ∧ z ≠ bx) W (w.heap.size + 1) 0 (fun hc => by have := hc.1; omega))).base (by omega) (fun z hz _ => by have := hz.1; omega),
    (hb.trans (h.below.mono hb.size)).trans (setN_below _ w.heap.size W (w.heap.size + 1) 0 (by omega))⟩
end

set_option maxRecDepth 100000 in
set_option maxHeartbeats 4000000 in
theorem copyM_any {C : Nat → Prop} : ∀ (m : Nat) {t : Tm} {tp : Option Addr} {tc : Nat} {rp : Option Addr} {rc : Nat} {p : Option Addr} {c : Nat} (w : World), t.nodes ≤ m → TM' w C t tp tc rp rc p c → t.wt ≤ 1048576 →
    Calls Tryd.prog 47 #[tmV t tp tc rp rc p c] w (CopyRet t w)
  | 0, t, tp, tc, rp, rc, p, c, w, hm, hT, hn => by rw [t.nodes_eq] at hm; omega
  | m + 1, t, tp, tc, rp, rc, p, c, w, hm, hT, hn => by
    obtain ⟨i0, hi, hz0, hz1, hz2⟩ := info_parts infoTm
    have hwe := t.wt_eq
    have hlen := wtS_ge t.args
    have n1 : nodesS t.ty.args ≤ 1048576 := by omega
    have n2 : nodesS t.res.args ≤ 1048576 := by omega
    obtain ⟨wl, hwl, hsz, hbl, q0, q1⟩ := box_new2 w (tmC t tp tc rp rc p c) #[.int .i64 0, .string ⟨#[]⟩, .string ⟨#[]⟩, .int .i64 0, .int .i64 0, .slice none 0 0, .int .i64 0, .slice none 0 0, .slice none 0 0] 35 35
    have HA := Lib.hid (fun (W : World) (hW : Below wl.heap.size wl W) => copyT_any (⟨_, rfl, (hT.ty.keep hbl).keep hW⟩ : TT W C t.ty (.agg #[.int .i64 t.ty.kind, .slice tp t.ty.args.length tc])) n1)
    have HB := Lib.hid (fun (W : World) (hW : Below wl.heap.size wl W) => copyT_any (⟨_, rfl, (hT.res.keep hbl).keep hW⟩ : TT W C t.res (.agg #[.int .i64 t.res.kind, .slice rp t.res.args.length rc])) n2)
    have HX0 := Lib.hid (Bx9.of q0)
    have HQ0 := Lib.hid q0
    have HQ1 := Lib.hid q1
    have HSZ := Lib.hid hsz
    have HBL := Lib.hid hbl
    have HWL := Lib.hid hwl
    clear hwe hlen n1 n2 q0 q1 hsz hbl hwl
    go_enter Tryd.func47, Tryd.ntmps47
    go_upto_region 1 with fail
    rw [HWL.out]
    go_cut [3] from 5 to 38 (fun s3 wx => Cpd wl t s3 wx)
    case first =>
      obtain ⟨g0, g1, g2, g3, g4, g5, g6, g7, g8⟩ := HX0.out
      have HS0 : Hid (Below wl.heap.size wl wl.drew ∧ wl.drew.cell? ⟨w.heap.size, 0, none⟩ = some (.int .i64 t.kind) ∧ wl.drew.cell? ⟨w.heap.size, 1, none⟩ = some (.string t.name) ∧ wl.drew.cell? ⟨w.heap.size, 2, none⟩ = some (.string t.other) ∧ wl.drew.cell? ⟨w.heap.size, 3, none⟩ = some (.int .i64 t.n) ∧ wl.drew.cell? ⟨w.heap.size, 4, none⟩ = some (.int .i64 t.ty.kind) ∧ wl.drew.cell? ⟨w.heap.size, 5, none⟩ = some (.slice tp t.ty.args.length tc) ∧ wl.drew.cell? ⟨w.heap.size, 6, none⟩ = some (.int .i64 t.res.kind) ∧ wl.drew.cell? ⟨w.heap.size, 7, none⟩ = some (.slice rp t.res.args.length rc)) := Lib.hid ⟨(Below.refl _ wl).drew, g0, g1, g2, g3, g4, g5, g6, g7⟩
      go_region_held3 (fun w' => Below wl.heap.size wl w' ∧ w'.cell? ⟨w.heap.size, 0, none⟩ = some (.int .i64 t.kind) ∧ w'.cell? ⟨w.heap.size, 1, none⟩ = some (.string t.name) ∧ w'.cell? ⟨w.heap.size, 2, none⟩ = some (.string t.other) ∧ w'.cell? ⟨w.heap.size, 3, none⟩ = some (.int .i64 t.n) ∧ w'.cell? ⟨w.heap.size, 4, none⟩ = some (.int .i64 t.ty.kind) ∧ w'.cell? ⟨w.heap.size, 5, none⟩ = some (.slice tp t.ty.args.length tc) ∧ w'.cell? ⟨w.heap.size, 6, none⟩ = some (.int .i64 t.res.kind) ∧ w'.cell? ⟨w.heap.size, 7, none⟩ = some (.slice rp t.res.args.length rc))
        (first
          | with_reducible exact HS0.out
          | with_reducible exact HS4.out
          | with_reducible exact (cp_set (cp_set (cp_set (cp_set (cp_set (cp_set (cp_set (cp_set (cp_set HS4.out HLE.out HNE.out) HLE.out HNE.out) HLE.out HNE.out) HLE.out HNE.out) HLE.out HNE.out) HLE.out HNE.out) HLE.out HNE.out) HLE.out HNE.out) HLE.out HNE.out)
          | with_reducible exact cp_keep (al_below w4 _) HS4.out
          | with_reducible exact cp_keep hb1 (by assumption)
          | with_reducible exact cp_keep (al_below _ _) (by assumption)
          | (go_keep; done)
          | fail)
        (first
          | (go_at_call_of 73 (Value.agg #[.int .i64 t.ty.kind, .slice tp t.ty.args.length tc]); refine (HA.out _ (And.left (by assumption))).mono ?_; rintro e w3 ⟨v1, rfl, ⟨s1, rfl, hs1⟩, hb1⟩; obtain ⟨p1, c1, rfl⟩ := hs1.form)
          | (go_at_call_of 73 (Value.agg #[.int .i64 t.res.kind, .slice rp t.res.args.length rc]); refine (HB.out _ (And.left (by assumption))).mono ?_; rintro e w4 ⟨v2, rfl, ⟨s2, rfl, hs2⟩, hb2⟩; obtain ⟨p2, c2, rfl⟩ := hs2.form; have HS4 : Hid (Below wl.heap.size wl w4 ∧ w4.cell? ⟨w.heap.size, 0, none⟩ = some (.int .i64 t.kind) ∧ w4.cell? ⟨w.heap.size, 1, none⟩ = some (.string t.name) ∧ w4.cell? ⟨w.heap.size, 2, none⟩ = some (.string t.other) ∧ w4.cell? ⟨w.heap.size, 3, none⟩ = some (.int .i64 t.n) ∧ w4.cell? ⟨w.heap.size, 4, none⟩ = some (.int .i64 t.ty.kind) ∧ w4.cell? ⟨w.heap.size, 5, none⟩ = some (.slice tp t.ty.args.length tc) ∧ w4.cell? ⟨w.heap.size, 6, none⟩ = some (.int .i64 t.res.kind) ∧ w4.cell? ⟨w.heap.size, 7, none⟩ = some (.slice rp t.res.args.length rc)) := Lib.hid (cp_keep hb2 (by assumption)); (first
              | (have zb : w4.heap[wl.heap.size]? = some (.cells #[.int .i64 0, .string ⟨#[]⟩, .string ⟨#[]⟩, .int .i64 0, .int .i64 0, .slice none 0 0, .int .i64 0, .slice none 0 0, .slice none 0 0] 35 (0, 0)) := (hb2.block wl.heap.size (by have := hb1.size; simp at this ⊢; omega)).trans ((hb1.block wl.heap.size (by simp)).trans (blk_new wl.drew _)); have HZB := Lib.hid zb; have y0 : w4.cell? ⟨wl.heap.size, 0, none⟩ = some (.int .i64 0) := cell_of_blk zb 0; have y1 : w4.cell? ⟨wl.heap.size, 1, none⟩ = some (.string ⟨#[]⟩) := cell_of_blk zb 1; have y2 : w4.cell? ⟨wl.heap.size, 2, none⟩ = some (.string ⟨#[]⟩) := cell_of_blk zb 2; have y3 : w4.cell? ⟨wl.heap.size, 3, none⟩ = some (.int .i64 0) := cell_of_blk zb 3; have y4 : w4.cell? ⟨wl.heap.size, 4, none⟩ = some (.int .i64 0) := cell_of_blk zb 4; have y5 : w4.cell? ⟨wl.heap.size, 5, none⟩ = some (.slice none 0 0) := cell_of_blk zb 5; have y6 : w4.cell? ⟨wl.heap.size, 6, none⟩ = some (.int .i64 0) := cell_of_blk zb 6; have y7 : w4.cell? ⟨wl.heap.size, 7, none⟩ = some (.slice none 0 0) := cell_of_blk zb 7; have y8 : w4.cell? ⟨wl.heap.size, 8, none⟩ = some (.slice none 0 0) := cell_of_blk zb 8; have yz := unfrozen_of_blk zb; clear zb; have HLE : Hid (wl.heap.size ≤ wl.heap.size) := Lib.hid (Nat.le_refl _); have HNE : Hid (w.heap.size ≠ wl.heap.size) := Lib.hid (by have := HLE.out; have := HSZ.out; omega); have HT1 : Hid (TS w4 (fun z => wl.heap.size ≤ z ∧ z ≠ wl.heap.size) t.ty.args (.slice p1 t.ty.args.length c1)) := Lib.hid ((hs1.mono (fun z hz _ => ⟨by simp at hz; omega, by simp at hz; omega⟩)).keep hb2); have HT2 : Hid (TS w4 (fun z => wl.heap.size ≤ z ∧ z ≠ wl.heap.size) t.res.args (.slice p2 t.res.args.length c2)) := Lib.hid (hs2.mono (fun z hz _ => by have := hb1.size; simp at this; exact ⟨by omega, by omega⟩)))
              | (have zb : w4.heap[w3.heap.size]? = some (.cells #[.int .i64 0, .string ⟨#[]⟩, .string ⟨#[]⟩, .int .i64 0, .int .i64 0, .slice none 0 0, .int .i64 0, .slice none 0 0, .slice none 0 0] 35 (0, 0)) := (hb2.block w3.heap.size (by simp)).trans (blk_new w3 _); have HZB := Lib.hid zb; have y0 : w4.cell? ⟨w3.heap.size, 0, none⟩ = some (.int .i64 0) := cell_of_blk zb 0; have y1 : w4.cell? ⟨w3.heap.size, 1, none⟩ = some (.string ⟨#[]⟩) := cell_of_blk zb 1; have y2 : w4.cell? ⟨w3.heap.size, 2, none⟩ = some (.string ⟨#[]⟩) := cell_of_blk zb 2; have y3 : w4.cell? ⟨w3.heap.size, 3, none⟩ = some (.int .i64 0) := cell_of_blk zb 3; have y4 : w4.cell? ⟨w3.heap.size, 4, none⟩ = some (.int .i64 0) := cell_of_blk zb 4; have y5 : w4.cell? ⟨w3.heap.size, 5, none⟩ = some (.slice none 0 0) := cell_of_blk zb 5; have y6 : w4.cell? ⟨w3.heap.size, 6, none⟩ = some (.int .i64 0) := cell_of_blk zb 6; have y7 : w4.cell? ⟨w3.heap.size, 7, none⟩ = some (.slice none 0 0) := cell_of_blk zb 7; have y8 : w4.cell? ⟨w3.heap.size, 8, none⟩ = some (.slice none 0 0) := cell_of_blk zb 8; have yz := unfrozen_of_blk zb; clear zb; have HLE : Hid (wl.heap.size ≤ w3.heap.size) := Lib.hid hb1.size; have HNE : Hid (w.heap.size ≠ w3.heap.size) := Lib.hid (by have := HLE.out; have := HSZ.out; omega); have HT1 : Hid (TS w4 (fun z => wl.heap.size ≤ z ∧ z ≠ w3.heap.size) t.ty.args (.slice p1 t.ty.args.length c1)) := Lib.hid (((hs1.mono (C' := fun z => wl.heap.size ≤ z ∧ z ≠ w3.heap.size) (fun z hz hl => ⟨hz, by omega⟩)).keep (al_below w3 _)).keep hb2); have HT2 : Hid (TS w4 (fun z => wl.heap.size ≤ z ∧ z ≠ w3.heap.size) t.res.args (.slice p2 t.res.args.length c2)) := Lib.hid (hs2.mono (fun z hz _ => by have := hb1.size; simp at hz this; exact ⟨by omega, by omega⟩)))
              | (have HB1 : Hid (Below wl.heap.size wl w3) := Lib.hid ((Below.refl _ wl).drew.trans hb1); have HS1 : Hid (TS w3 (fun z => wl.heap.size ≤ z) t.ty.args (.slice p1 t.ty.args.length c1)) := Lib.hid hs1; have HB2 : Hid (Below w3.heap.size w3 w4) := Lib.hid hb2; have HS2 : Hid (TS w4 (fun z => w3.heap.size ≤ z) t.res.args (.slice p2 t.res.args.length c2)) := Lib.hid hs2)))
          | fail)
      all_goals
        go_wp2_with fail
        go_meet
        first
          | with_reducible exact cpd_set HZB.out HLE.out HT1.out HT2.out HS4.out.1
          | with_reducible exact cpd_A HB1.out HS1.out HB2.out HS2.out
          | fail
    case rest =>
      obtain ⟨bx, p1, c1, p2, c2, rfl, hbk, hle, hT1, hT2, hbw⟩ := hcut
      have HI0 : Hid (CInv wl bx wc (.mk t.kind t.name t.other t.n t.ty t.res []) p1 c1 p2 c2 none 0 []) := Lib.hid ⟨hbw, hbk, ⟨hT1.mono (fun z hz _ => ⟨hz, by simp [Value.ownBlock]⟩), hT2.mono (fun z hz _ => ⟨hz, by simp [Value.ownBlock]⟩), RowM.start _ _ _⟩, hle⟩
      have HT := Lib.hid (hT.stays (.of_below HBL.out))
      have HM := Lib.hid hm
      have HNE := Lib.hid t.nodes_eq
      have HNW := Lib.hid hn
      have hwa : wtS t.args ≤ 1048576 := by have := t.wt_eq; omega
      have hlen := wtS_ge t.args
      have hl0 : t.args.length ≤ 1048576 := by omega
      clear hbk hle hT1 hT2 hbw hT hm hn HA HB HWL hlen
      go_wp2_with fail
      go_loopw [4] (fun i wr => ∃ (k : Nat) (pp : Option Addr) (cc : Nat) (xs : List Value), k ≤ t.args.length ∧ i = .int .i64 k ∧ CInv wl bx wr (.mk t.kind t.name t.other t.n t.ty t.res (t.args.take k)) p1 c1 p2 c2 pp cc xs) (fun i _ => t.args.length - (intOf i).toNat)
      case atStart => exact ⟨0, none, 0, [], Nat.zero_le _, rfl, by rw [List.take_zero]; exact HI0.out⟩
      case round =>
        obtain ⟨k, pp, cc, xs, hk, rfl, hI⟩ := hrel
        have HI := Lib.hid hI
        have hx0 := (hI.below.block w.heap.size (by have := HSZ.out; omega)).trans HQ0.out
        have hx1 := (hI.below.block (w.heap.size + 1) (by have := HSZ.out; omega)).trans HQ1.out
        have x8 : wr.cell? ⟨w.heap.size, 8, none⟩ = some (.slice p t.args.length c) := cell_of_blk hx0 8
        by_cases hlk : k < t.args.length
        · obtain ⟨b, o, tp2, tc2, rp2, rc2, p3, c3, rfl, hC, hb, h9, hP⟩ := tm_part HT.out.args k hlk
          obtain ⟨g0, g1, g2, g3, g4, g5, g6, g7, g8⟩ := h9 wr (.of_below hI.below)
          have n4 := nodesM_at t.args k hlk
          have n5 := wtS_at t.args k hlk
          have hmk : t.args[k].nodes ≤ m := by have := HM.out; have := HNE.out; omega
          have hi0 : (0 : Int) ≤ (k : Int) := Int.natCast_nonneg _
          have hi1 : (k : Int) < (t.args.length : Int) := by omega
          have HC := Lib.hid (copyM_any m wr.drew hmk (hP.stays (.of_below hI.below.drew)) (by omega))
          have e1 : (t.args.take k).length = k := by rw [List.length_take]; omega
          have HE1 := Lib.hid e1
          have HL := Lib.hid hI.lt
          have y8 := hI.facts.1.2.2.2.2.2.2.2.2
          rw [e1] at y8
          have yz := hI.facts.2
          clear hC hb h9 hP n4 n5 hmk hx0 hx1 hI e1
          go_wp2_with fail
          go_region_law (first
            | (refine step_app1 (w0 := w1) (v := .slice pp k cc) (n := k) (xs := xs) rfl (.tmp 28) (.tmp 35) rfl Tryd.underlying33 hi hz0 hz1 hz2 rfl (by decide) rfl HOW.out _ rfl (by simp) rfl (fun u hu => by simp at hu; rcases hu with rfl | rfl | rfl | rfl | rfl | rfl | rfl | rfl | rfl <;> rfl) (by unfold maxLen; omega) (by omega) HSW.out ?_; intro w' g2' cap2 hA; have d6b := (hA.kept bx HI1.out.bxlt (fun e => by have hE := HE1.out; rw [← hE] at e; exact (HI1.out.new.row.blk _ e).2 rfl)).1.trans HI1.out.box; have d6 : w'.cell? ⟨bx, 8, none⟩ = some (.slice pp k cc) := by have := cell8 d6b; have hE := HE1.out; rw [hE] at this; exact this
               have d6z := unfrozen_of_blk d6b)
            | (go_simp; go_at_call 47; refine HC.out.mono ?_; rintro e w1 ⟨tp3, tc3, rp3, rc3, p4, c4, xs3, rfl, hN, hb1⟩; have hI1 := (HI.out.keep ((Below.refl _ wr).drew)).keep hb1; have HI1 := Lib.hid hI1; have HN := Lib.hid hN; have HB1 := Lib.hid hb1; have HOW : Hid (w1.ownsRow wl.heap.size 35 9 (.slice pp k cc) k xs) := Lib.hid (by have hE := HE1.out; have := hI1.own; rw [hE] at this; exact this)
               have HSW : Hid (wl.heap.size ≤ w1.heap.size) := Lib.hid hI1.below.size
               have d4 : w1.cell? ⟨bx, 8, none⟩ = some (.slice pp k cc) := by have := hI1.facts.1.2.2.2.2.2.2.2.2; have hE := HE1.out; rw [hE] at this; exact this
               have d4z := hI1.facts.2
               have d5 := fun (o : Obj) => al_cell d4 o
               clear hI1 hN hb1))
          all_goals
            have HAA := Lib.hid hA
            clear hA d4 d4z d5 d6b d6 d6z g0 g1 g2 g3 g4 g5 g6 g7 g8 x8 y8 yz
            go_wp2_with fail
            go_roundw
            case rel =>
              refine ⟨k + 1, some ⟨g2', 0, none⟩, cap2, xs ++ [.int .i64 t.args[k].kind, .string t.args[k].name, .string t.args[k].other, .int .i64 t.args[k].n, .int .i64 t.args[k].ty.kind, .slice tp3 t.args[k].ty.args.length tc3, .int .i64 t.args[k].res.kind, .slice rp3 t.args[k].res.args.length rc3, .slice p4 t.args[k].args.length c4], by omega, by go_num, ?_⟩
              have hE := HE1.out
              have hA2 := HAA.out
              have := HI1.out.app (x := t.args[k]) (us := [.int .i64 t.args[k].kind, .string t.args[k].name, .string t.args[k].other, .int .i64 t.args[k].n, .int .i64 t.args[k].ty.kind, .slice tp3 t.args[k].ty.args.length tc3, .int .i64 t.args[k].res.kind, .slice rp3 t.args[k].res.args.length rc3, .slice p4 t.args[k].args.length c4]) (g := g2') (cap := cap2) (by rw [hE]; exact hA2) (HN.out.tm.mono (fun z hz _ => ?_)).ms
              · rw [hE] at this
                rw [tm_take_next hlk]
                exact this
              · have l1 := HI.out.below.size
                have l2 := HI.out.bxlt
                have hz' : wr.heap.size ≤ z := hz
                refine ⟨⟨by omega, by omega⟩, fun e => ?_⟩
                have := (HI.out.new.row.own.lt _ e).2
                omega
            case measure => simp [intOf]; omega
        · obtain rfl : k = t.args.length := by omega
          rw [List.take_length] at hI HI
          obtain ⟨⟨d0, d1, d2, d3, d4, d5, d6, d7, d8⟩, dz⟩ := hI.facts
          have r0 := cell_of_blk hx1 0
          have r1 := cell_of_blk hx1 1
          have r2 := cell_of_blk hx1 2
          have r3 := cell_of_blk hx1 3
          have r4 := cell_of_blk hx1 4
          have r5 := cell_of_blk hx1 5
          have r6 := cell_of_blk hx1 6
          have r7 := cell_of_blk hx1 7
          have r8 := cell_of_blk hx1 8
          have rz := unfrozen_of_blk hx1
          simp only [List.getElem?_toArray, List.getElem?_cons_zero, List.getElem?_cons_succ] at r0 r1 r2 r3 r4 r5 r6 r7 r8
          clear hx0 hx1 hI
          go_wp2_with fail
          refine bodyPost_ret (v := tmV t p1 c1 p2 c2 pp cc) ?_ rfl ?_
          · rw [results_cell1 rfl]
            go_simp
            all_goals (repeat' apply And.intro) <;> rfl
          · have h1 := HI.out
            rw [← t.eta] at h1
            have := h1.fin HBL.out HSZ.out
            rw [setN9] at this
            exact this
end Go.Proofs.YtfeijijeohfpgaaDoor
namespace Go.Proofs.YtfeijijeohfpgaaDoor
open Go Go.RowKit

end Go.Proofs.YtfeijijeohfpgaaDoor
namespace Go.Proofs.YtfeijijeohfpgaaDoor
open Go Go.RowKit
structure JobM where
  x : Tm
  b : Nat
  o : Nat
def FreeM (st : List JobM) (b o : Nat) : Prop := ∀ e ∈ st, ¬ (e.b = b ∧ e.o ≤ o ∧ o < e.o + 9)
def Has9 (w : World) (b o : Nat) (vs : List Value) : Prop := vs.length = 9 ∧ ∀ j, j < 9 → w.cell? ⟨b, o + j, none⟩ = vs[j]?
def BlkM (w : World) (b : Nat) : Prop := ∃ cur, w.heap[b]? = some (.cells cur 35 (0, 0))
def BlkT (w : World) (b : Nat) : Prop := ∃ cur, w.heap[b]? = some (.cells cur 32 (0, 0))
theorem BlkM.not {w : World} {b : Nat} (h : BlkM w b) : ¬ BlkT w b := by
  rintro ⟨c2, h2⟩
  obtain ⟨c1, h1⟩ := h
  rw [h1] at h2
  simp only [Option.some.injEq, Obj.cells.injEq] at h2
  exact absurd h2.2.1 (by decide)
theorem BlkT.lt {w : World} {b : Nat} (h : BlkT w b) : b < w.heap.size := by
  obtain ⟨c1, h1⟩ := h
  exact blk_lt h1
theorem OS.blkT {w : World} {F : Nat → Prop} {ts : List Ty} {v : Value} (h : OS w ts v F) : OS w ts v (fun z => F z ∧ BlkT w z) := by
  induction h with
  | none F => exact .none _
  | row K S G hrow hm hF hk hr hG hd ih =>
    exact .row K S (fun j z => G j z ∧ BlkT w z) hrow hm ⟨hF, hrow.elim fun cur h => ⟨cur, h.1⟩⟩ hk ih (fun j x hj hx => ⟨⟨(hG j x hj hx.1).1, hx.2⟩, (hG j x hj hx.1).2⟩) (fun i j x hi hj hij h1 h2 => hd i j x hi hj hij h1.1 h2.1)
structure FilledM (w w' : World) (U K : Nat → Prop) (st : List JobM) : Prop where
  size : w.heap.size ≤ w'.heap.size
  keep : ∀ z, K z → w'.heap[z]? = w.heap[z]?
  same : ∀ b, U b → ∀ o, FreeM st b o → w'.cell? ⟨b, o, none⟩ = w.cell? ⟨b, o, none⟩
  shape : ∀ b, U b → ∀ cur : Array Value, w.heap[b]? = some (.cells cur 35 (0, 0)) → ∃ cur' : Array Value, w'.heap[b]? = some (.cells cur' 35 (0, 0)) ∧ cur'.size = cur.size
  full : ∃ G : Nat → Nat → Prop, (∀ i e, st[i]? = some e → ∃ vs, Has9 w' e.b e.o vs ∧ OSt w' e.x.ds vs (G i)) ∧
    (∀ i z, i < st.length → G i z → w.heap.size ≤ z) ∧ (∀ i j z, i < st.length → j < st.length → i ≠ j → G i z → G j z → False)
def RootM (w' : World) (R : Nat) (T : Tm) : Prop := ∃ vs, Has9 w' R 0 vs ∧ OSt w' T.ds vs (fun b => R < b)
structure GInv (w : World) (U K : Nat → Prop) (st : List JobM) (R : Nat) (T : Tm) : Prop where
  lt : ∀ b, U b → R ≤ b ∧ b < w.heap.size ∧ BlkM w b
  ltK : ∀ b, K b → BlkT w b
  root : R < w.heap.size
  loc : ∀ e ∈ st, U e.b ∧ (∀ j, j < 9 → ∃ q, w.cell? ⟨e.b, e.o + j, none⟩ = some q) ∧ e.o % 9 = 0
  apart : ∀ (i j : Nat) (e f : JobM), st[i]? = some e → st[j]? = some f → i ≠ j → ¬ (e.b = f.b ∧ e.o = f.o)
  wand : ∀ w', FilledM w w' U K st → RootM w' R T

theorem GInv.start {w : World} {R : Nat} {t : Tm} {cur : Array Value} (h : w.heap[R]? = some (.cells cur 35 (0, 0))) (hc : cur.size = 9) : GInv w (fun b => b = R) (fun _ => False) [⟨t, R, 0⟩] R t := by
  have hlt := blk_lt h
  refine ⟨fun b hb => by subst hb; exact ⟨Nat.le_refl _, hlt, _, h⟩, fun b hb => hb.elim, hlt, fun e he => ?_, fun i j e f hi hj hij => ?_, fun w' hf => ?_⟩
  · simp only [List.mem_singleton] at he
    subst he
    refine ⟨rfl, fun j hj => ⟨cur[j], ?_⟩, rfl⟩
    rw [cell_of_blk' h]
    simp
  · have h1 := (List.getElem?_eq_some_iff.1 hi).1
    have h2 := (List.getElem?_eq_some_iff.1 hj).1
    simp only [List.length_singleton] at h1 h2
    omega
  · obtain ⟨G, h1, h2, _⟩ := hf.full
    obtain ⟨vs, e1, e3⟩ := h1 0 _ rfl
    exact ⟨vs, e1, e3.mono (fun b hb => Nat.lt_of_lt_of_le hlt (h2 0 b (by simp) hb))⟩

theorem GInv.done {w : World} {U K : Nat → Prop} {R : Nat} {T : Tm} (h : GInv w U K [] R T) : RootM w R T :=
  h.wand w ⟨Nat.le_refl _, fun _ _ => rfl, fun _ _ _ _ => rfl, fun _ _ cur hc => ⟨cur, hc, rfl⟩, fun _ _ => False, fun i e hi => by simp at hi, fun i z hi => by simp at hi, fun i j z hi => by simp at hi⟩

theorem GInv.frame {w w2 : World} {U K : Nat → Prop} {st : List JobM} {R : Nat} {T : Tm} (h : GInv w U K st R T) (hs : w.heap.size ≤ w2.heap.size) (hU : ∀ c, U c ∨ K c → w2.heap[c]? = w.heap[c]?) : GInv w2 U K st R T := by
  have hc : ∀ c q, U c → w2.cell? ⟨c, q, none⟩ = w.cell? ⟨c, q, none⟩ := fun c q hc => World.cell?_of_block (hU c (Or.inl hc))
  refine ⟨fun b hb => ?_, fun b hb => ?_, Nat.lt_of_lt_of_le h.root hs, fun e he => ?_, h.apart, fun w' hf => h.wand w' ⟨Nat.le_trans hs hf.size, fun z hz => (hf.keep z hz).trans (hU z (Or.inr hz)), fun b hb o ho => (hf.same b hb o ho).trans (hc b o hb), fun b hb cur hcur => hf.shape b hb cur ((hU b (Or.inl hb)).trans hcur), ?_⟩⟩
  · obtain ⟨h1, h2, cur, h3⟩ := h.lt b hb
    exact ⟨h1, Nat.lt_of_lt_of_le h2 hs, cur, (hU b (Or.inl hb)).trans h3⟩
  · obtain ⟨cur, h3⟩ := h.ltK b hb
    exact ⟨cur, (hU b (Or.inr hb)).trans h3⟩
  · obtain ⟨h1, h2, h4⟩ := h.loc e he
    refine ⟨h1, fun j hj => ?_, h4⟩
    obtain ⟨q, hq⟩ := h2 j hj
    exact ⟨q, (hc _ _ h1).trans hq⟩
  · obtain ⟨G, g1, g2, g3⟩ := hf.full
    exact ⟨G, g1, fun i z hi hz => Nat.le_trans hs (g2 i z hi hz), g3⟩

theorem GInv.low {w : World} {U K : Nat → Prop} {st : List JobM} {R : Nat} {T : Tm} (h : GInv w U K st R T) {c : Nat} (hc : U c ∨ K c) : c < w.heap.size := by
  rcases hc with hc | hc
  · exact (h.lt c hc).2.1
  · exact (h.ltK c hc).lt
def kidsM (b : Nat) (ys : List Tm) : List JobM := ys.mapIdx fun j y => ⟨y, b, j * 9⟩
theorem kidsM_length (b : Nat) (ys : List Tm) : (kidsM b ys).length = ys.length := by simp [kidsM]
theorem kidsM_at {b : Nat} {ys : List Tm} {j : Nat} {e : JobM} (h : (kidsM b ys)[j]? = some e) : ∃ y, ys[j]? = some y ∧ e = ⟨y, b, j * 9⟩ := by
  simp only [kidsM, List.getElem?_mapIdx, Option.map_eq_some_iff] at h
  obtain ⟨y, h1, h2⟩ := h
  exact ⟨y, h1, h2.symm⟩
theorem kidsM_get {b : Nat} {ys : List Tm} {j : Nat} {y : Tm} (h : ys[j]? = some y) : (kidsM b ys)[j]? = some ⟨y, b, j * 9⟩ := by
  simp [kidsM, List.getElem?_mapIdx, h]
theorem kidsM_mem {b : Nat} {ys : List Tm} {e : JobM} (h : e ∈ kidsM b ys) : e.b = b ∧ e.o % 9 = 0 ∧ ∃ j y, ys[j]? = some y ∧ e = ⟨y, b, j * 9⟩ := by
  obtain ⟨j, hj⟩ := List.getElem?_of_mem h
  obtain ⟨y, hy, rfl⟩ := kidsM_at hj
  exact ⟨rfl, by simp, j, y, hy, rfl⟩
def PartsM (w wn : World) (n : Nat) (p : Option Addr) (c bb : Nat) : Prop := (n = 0 ∧ p = none ∧ c = 0) ∨
  ∃ cur0 : Array Value, 0 < n ∧ p = some ⟨bb, 0, none⟩ ∧ w.heap.size ≤ bb ∧ wn.heap[bb]? = some (.cells cur0 35 (0, 0)) ∧ cur0.size = c * 9 ∧ n ≤ c ∧ c ≤ maxLen

section
variable {w wn : World} {U K : Nat → Prop} {st0 : List JobM} {x : Tm} {b o R : Nat} {T : Tm}
theorem GInv.other (h : GInv w U K (st0 ++ [⟨x, b, o⟩]) R T) : ∀ e ∈ st0, e.b = b → e.o + 9 ≤ o ∨ o + 9 ≤ e.o := by
  intro e he hh
  obtain ⟨i, hi⟩ := List.getElem?_of_mem he
  have hil := (List.getElem?_eq_some_iff.1 hi).1
  have h1 := h.apart i st0.length e ⟨x, b, o⟩ (by rw [List.getElem?_append_left hil]; exact hi) (by simp) (by omega)
  have h2 := (h.loc e (List.mem_append_left _ he)).2.2
  have h3 := (h.loc ⟨x, b, o⟩ (by simp)).2.2
  simp only at h3 h1
  have : e.o ≠ o := fun e' => h1 ⟨hh, e'⟩
  omega
theorem GInv.node (h : GInv w U K (st0 ++ [⟨x, b, o⟩]) R T) (hsz : w.heap.size ≤ wn.heap.size)
    (hsame : ∀ c, U c → ∀ q, ¬ (c = b ∧ o ≤ q ∧ q < o + 9) → wn.cell? ⟨c, q, none⟩ = w.cell? ⟨c, q, none⟩)
    (hshape : ∀ c, U c → ∀ cur : Array Value, w.heap[c]? = some (.cells cur 35 (0, 0)) → ∃ cur' : Array Value, wn.heap[c]? = some (.cells cur' 35 (0, 0)) ∧ cur'.size = cur.size)
    (hkeep : ∀ z, K z → wn.heap[z]? = w.heap[z]?) {tp rp p : Option Addr} {tc rc c bb : Nat}
    (h9 : Has9 wn b o (tmL x tp tc rp rc p c)) {F1 F2 : Nat → Prop} (h1 : OS wn x.ty.args (.slice tp x.ty.args.length tc) F1) (h2 : OS wn x.res.args (.slice rp x.res.args.length rc) F2)
    (hF1 : ∀ z, F1 z → w.heap.size ≤ z ∧ BlkT wn z ∧ ¬ F2 z) (hF2 : ∀ z, F2 z → w.heap.size ≤ z ∧ BlkT wn z) (hp : PartsM w wn x.args.length p c bb) :
    GInv wn (fun z => U z ∨ (0 < x.args.length ∧ z = bb)) (fun z => K z ∨ F1 z ∨ F2 z) (st0 ++ kidsM bb x.args) R T := by
  have hf0 := h.other
  have hUb : U b := (h.loc ⟨x, b, o⟩ (by simp)).1
  have hob := (h.loc ⟨x, b, o⟩ (by simp)).2.2
  simp only at hob
  have hbb : 0 < x.args.length → w.heap.size ≤ bb ∧ BlkM wn bb := fun h0 => by
    rcases hp with ⟨e, _⟩ | ⟨cur0, _, _, e2, e3, _⟩
    · omega
    · exact ⟨e2, _, e3⟩
  have hne : ∀ c, U c → 0 < x.args.length → c ≠ bb := fun c hc h0 e => by have := (h.lt c hc).2.1; have := (hbb h0).1; omega
  have kn : ∀ e, e ∈ kidsM bb x.args → 0 < x.args.length := fun e he => by
    have := List.length_pos_of_mem he
    rwa [kidsM_length] at this
  have newK : ∀ z, BlkT wn z → w.heap.size ≤ z → ∀ c, U c → c ≠ z := fun z _ hz c hc e => by have := (h.lt c hc).2.1; omega
  refine ⟨fun c hc => ?_, fun c hc => ?_, Nat.lt_of_lt_of_le h.root hsz, fun e he => ?_, fun i j e f hi hj hij hh => ?_, fun w' hf => h.wand w' ⟨Nat.le_trans hsz hf.size, fun z hz => (hf.keep z (Or.inl hz)).trans (hkeep z hz), fun c hc q hq => ?_, fun c hc cur hcur => ?_, ?_⟩⟩
  · rcases hc with hc | ⟨h0, rfl⟩
    · obtain ⟨h1, h2, cur, h3⟩ := h.lt c hc
      obtain ⟨cur', h4, _⟩ := hshape c hc cur h3
      exact ⟨h1, Nat.lt_of_lt_of_le h2 hsz, cur', h4⟩
    · obtain ⟨h1, cur, h2⟩ := hbb h0
      exact ⟨by have := h.root; omega, blk_lt h2, cur, h2⟩
  · rcases hc with hc | hc | hc
    · obtain ⟨cur, h3⟩ := h.ltK c hc
      exact ⟨cur, (hkeep c hc).trans h3⟩
    · exact (hF1 c hc).2.1
    · exact (hF2 c hc).2
  · rcases List.mem_append.1 he with he | he
    · obtain ⟨h1, h2, h4⟩ := h.loc e (List.mem_append_left _ he)
      refine ⟨Or.inl h1, fun j hj => ?_, h4⟩
      obtain ⟨q, hq⟩ := h2 j hj
      refine ⟨q, (hsame _ h1 _ (fun hh => ?_)).trans hq⟩
      have := hf0 e he hh.1
      omega
    · have h0 := kn e he
      obtain ⟨h1, h2, j, z, hz, rfl⟩ := kidsM_mem he
      have hj := (List.getElem?_eq_some_iff.1 hz).1
      rcases hp with ⟨e, _⟩ | ⟨cur0, _, _, e2, e3, e4, e5, e6⟩
      · omega
      · refine ⟨Or.inr ⟨h0, rfl⟩, fun r hr => ?_, h2⟩
        have hin : j * 9 + r < cur0.size := by have := mul_lt_next (k := 9) (n := c) (show j < c by omega) hr; omega
        refine ⟨cur0[j * 9 + r], ?_⟩
        rw [cell_of_blk' e3]
        simp [hin]
  · by_cases hi0 : i < st0.length
    · rw [List.getElem?_append_left hi0] at hi
      by_cases hj0 : j < st0.length
      · rw [List.getElem?_append_left hj0] at hj
        exact h.apart i j e f (by rw [List.getElem?_append_left hi0]; exact hi) (by rw [List.getElem?_append_left hj0]; exact hj) hij hh
      · rw [List.getElem?_append_right (by omega)] at hj
        have h0 := kn f (List.mem_of_getElem? hj)
        obtain ⟨z, _, rfl⟩ := kidsM_at hj
        exact hne _ (h.loc e (List.mem_append_left _ (List.mem_of_getElem? hi))).1 h0 hh.1
    · rw [List.getElem?_append_right (by omega)] at hi
      have h0 := kn e (List.mem_of_getElem? hi)
      obtain ⟨z, _, rfl⟩ := kidsM_at hi
      by_cases hj0 : j < st0.length
      · rw [List.getElem?_append_left hj0] at hj
        exact hne _ (h.loc f (List.mem_append_left _ (List.mem_of_getElem? hj))).1 h0 hh.1.symm
      · rw [List.getElem?_append_right (by omega)] at hj
        obtain ⟨z2, _, rfl⟩ := kidsM_at hj
        have := hh.2
        simp only at this
        omega
  · rw [hf.same c (Or.inl hc) q (fun e he hh => ?_)]
    · exact hsame c hc q (fun hh => hq ⟨x, b, o⟩ (by simp) ⟨hh.1.symm, hh.2⟩)
    · rcases List.mem_append.1 he with he | he
      · exact hq e (List.mem_append_left _ he) hh
      · exact hne c hc (kn e he) ((kidsM_mem he).1 ▸ hh.1).symm
  · obtain ⟨cur', h1, h2⟩ := hshape c hc cur hcur
    obtain ⟨cur'', h3, h4⟩ := hf.shape c (Or.inl hc) cur' h1
    exact ⟨cur'', h3, h4.trans h2⟩
  · obtain ⟨G, g1, g2, g3⟩ := hf.full
    have hlen : (st0 ++ kidsM bb x.args).length = st0.length + x.args.length := by rw [List.length_append, kidsM_length]
    have freeK : ∀ q, o ≤ q → q < o + 9 → FreeM (st0 ++ kidsM bb x.args) b q := fun q hq1 hq2 e he hh => by
      rcases List.mem_append.1 he with he | he
      · have := hf0 e he hh.1
        omega
      · exact hne b hUb (kn e he) ((kidsM_mem he).1 ▸ hh.1).symm
    have kid : ∀ j z, x.args[j]? = some z → ∃ vs, Has9 w' bb (j * 9) vs ∧ OSt w' z.ds vs (G (st0.length + j)) := by
      intro j z hz
      exact g1 (st0.length + j) ⟨z, bb, j * 9⟩ (by rw [List.getElem?_append_right (by omega), show st0.length + j - st0.length = j by omega]; exact kidsM_get hz)
    have root9 : Has9 w' b o (tmL x tp tc rp rc p c) := ⟨h9.1, fun j hj => (hf.same b (Or.inl hUb) (o + j) (freeK _ (by omega) (by omega))).trans (h9.2 j hj)⟩
    have t1 : OS w' x.ty.args (.slice tp x.ty.args.length tc) F1 := h1.stays ⟨hf.size, fun z hz _ => hf.keep z (Or.inr (Or.inl hz))⟩
    have t2 : OS w' x.res.args (.slice rp x.res.args.length rc) F2 := h2.stays ⟨hf.size, fun z hz _ => hf.keep z (Or.inr (Or.inr hz))⟩
    have t3 : DO w' (tmD x.args) (.slice p x.args.length c) (fun z => (0 < x.args.length ∧ z = bb) ∨ ∃ j, j < x.args.length ∧ G (st0.length + j) z) := by
      rcases hp with ⟨e0, rfl, rfl⟩ | ⟨cur0, h0, rfl, e2, e3, e4, e5, e6⟩
      · obtain e := List.eq_nil_of_length_eq_zero e0
        rw [e]
        exact .nil _ _ _
      · obtain ⟨cur', c1, c2⟩ := hf.shape bb (Or.inr ⟨h0, rfl⟩) cur0 e3
        have ch : ∀ j, ∃ (vs : List Value) (GG : Nat → Nat → Prop), ∀ z, x.args[j]? = some z → Has9 w' bb (j * 9) vs ∧ (∀ (i : Nat) (d : D) (v : Value), z.ds[i]? = some d → vs[i]? = some v → DO w' d v (GG i)) ∧ (∀ i y, i < 9 → GG i y → G (st0.length + j) y) ∧
            ∀ i i' y, i < 9 → i' < 9 → i ≠ i' → GG i y → GG i' y → False := fun j => by
          by_cases hj : j < x.args.length
          · obtain ⟨vs, a1, a2, GG, b1, b2, b3⟩ := kid j x.args[j] (List.getElem?_eq_getElem hj)
            rw [Tm.ds_len] at b2 b3
            refine ⟨vs, GG, fun z hz => ?_⟩
            rw [List.getElem?_eq_getElem hj] at hz
            obtain rfl := Option.some.inj hz
            exact ⟨a1, b1, b2, b3⟩
          · exact ⟨[], fun _ _ => False, fun z hz => absurd (List.getElem?_eq_some_iff.1 hz).1 hj⟩
        obtain ⟨vs, hvs⟩ := Classical.axiomOfChoice ch
        obtain ⟨GG, hGG⟩ := Classical.axiomOfChoice hvs
        have at9 : ∀ i, i < x.args.length * 9 → i / 9 < x.args.length ∧ i % 9 < 9 ∧ i / 9 * 9 + i % 9 = i := fun i hi => by omega
        refine DO.rows cur' (fun i => ((vs (i / 9))[i % 9]?).getD .nilIface) (fun i z => GG (i / 9) (i % 9) z) c1 (by rw [c2, e4]) e5 e6 (flatTm_len _) (Or.inl ⟨h0, rfl⟩) (fun i hi => ?_) (fun i d hi => ?_) (fun i z hi hz => ?_) (fun i i' z hi hi' hii k1 k2 => ?_)
        · obtain ⟨a1, a2, a3⟩ := at9 i hi
          obtain ⟨⟨l9, c9⟩, _⟩ := hGG (i / 9) _ (List.getElem?_eq_getElem a1)
          have := c9 (i % 9) a2
          rw [cell_of_blk' c1, a3] at this
          rw [this, List.getElem?_eq_getElem (by omega)]
          rfl
        · have hi' : i < x.args.length * 9 := by rw [← flatTm_len]; exact (List.getElem?_eq_some_iff.1 hi).1
          obtain ⟨a1, a2, a3⟩ := at9 i hi'
          obtain ⟨⟨l9, c9⟩, b1, _⟩ := hGG (i / 9) _ (List.getElem?_eq_getElem a1)
          have e := flatTm_at x.args (i / 9) (i % 9) a1 a2
          rw [a3, hi] at e
          exact b1 (i % 9) d _ e.symm (by rw [List.getElem?_eq_getElem (by omega)]; rfl)
        · obtain ⟨a1, a2, a3⟩ := at9 i hi
          obtain ⟨_, _, b2, _⟩ := hGG (i / 9) _ (List.getElem?_eq_getElem a1)
          have hz1 := b2 _ z a2 hz
          have hz2 := g2 (st0.length + i / 9) z (by omega) hz1
          have hz3 := blk_lt e3
          exact ⟨Or.inr ⟨i / 9, a1, hz1⟩, by omega⟩
        · obtain ⟨a1, a2, a3⟩ := at9 i hi
          obtain ⟨b1, b2, b3⟩ := at9 i' hi'
          obtain ⟨_, _, p1, p2⟩ := hGG (i / 9) _ (List.getElem?_eq_getElem a1)
          by_cases hq : i / 9 = i' / 9
          · rw [← hq] at k2
            exact p2 _ _ z a2 b2 (by omega) k1 k2
          · obtain ⟨_, _, q1, _⟩ := hGG (i' / 9) _ (List.getElem?_eq_getElem b1)
            exact g3 _ _ z (by omega) (by omega) (by omega) (p1 _ z a2 k1) (q1 _ z b2 k2)
    have g2' : ∀ j z, j < x.args.length → G (st0.length + j) z → wn.heap.size ≤ z := fun j z hj hz => g2 (st0.length + j) z (by omega) hz
    have notT : ∀ z, BlkT wn z → ¬ ((0 < x.args.length ∧ z = bb) ∨ ∃ j, j < x.args.length ∧ G (st0.length + j) z) := fun z hz hh => by
      rcases hh with ⟨a1, rfl⟩ | ⟨j, hj, hg⟩
      · exact (hbb a1).2.not hz
      · have := g2' j z hj hg
        have := hz.lt
        omega
    refine ⟨fun i => if i < st0.length then G i else fun z => F1 z ∨ F2 z ∨ ((0 < x.args.length ∧ z = bb) ∨ ∃ j, j < x.args.length ∧ G (st0.length + j) z), fun i e hi => ?_, fun i z hi hz => ?_, fun i j z hi hj hij hz1 hz2 => ?_⟩
    · by_cases hi0 : i < st0.length
      · simp only [if_pos hi0]
        rw [List.getElem?_append_left hi0] at hi
        exact g1 i e (by rw [List.getElem?_append_left hi0]; exact hi)
      · simp only [if_neg hi0]
        rw [List.getElem?_append_right (by omega)] at hi
        have hi1 : i - st0.length = 0 := by
          have := (List.getElem?_eq_some_iff.1 hi).1
          simp at this
          omega
        rw [hi1] at hi
        simp at hi
        subst hi
        exact ⟨_, root9, OSt9 t1 t2 t3 (fun z hz => ⟨Or.inl hz, (hF1 z hz).2.2, notT z (hF1 z hz).2.1⟩) (fun z hz => ⟨Or.inr (Or.inl hz), notT z (hF2 z hz).2⟩) (fun z hz => Or.inr (Or.inr hz))⟩
    · by_cases hi0 : i < st0.length
      · simp only [if_pos hi0] at hz
        exact Nat.le_trans hsz (g2 i z (by omega) hz)
      · simp only [if_neg hi0] at hz
        rcases hz with hz | hz | ⟨a1, rfl⟩ | ⟨j, hj, hz⟩
        · exact (hF1 z hz).1
        · exact (hF2 z hz).1
        · exact (hbb a1).1
        · exact Nat.le_trans hsz (g2' j z hj hz)
    · rw [List.length_append, List.length_singleton] at hi hj
      have key : ∀ i z, i < st0.length → G i z → ¬ (F1 z ∨ F2 z ∨ ((0 < x.args.length ∧ z = bb) ∨ ∃ j, j < x.args.length ∧ G (st0.length + j) z)) := fun i z hi hz hh => by
        have hg := g2 i z (by omega) hz
        rcases hh with h1 | h1 | ⟨a1, rfl⟩ | ⟨j, hj, h1⟩
        · have := (hF1 z h1).2.1.lt
          omega
        · have := (hF2 z h1).2.lt
          omega
        · obtain ⟨_, hb2⟩ := (hbb a1).2
          have := blk_lt hb2
          omega
        · exact g3 i _ z (by omega) (by omega) (by omega) hz h1
      by_cases hi0 : i < st0.length
      · simp only [if_pos hi0] at hz1
        by_cases hj0 : j < st0.length
        · simp only [if_pos hj0] at hz2
          exact g3 i j z (by omega) (by omega) hij hz1 hz2
        · simp only [if_neg hj0] at hz2
          exact key i z hi0 hz1 hz2
      · simp only [if_neg hi0] at hz1
        have hj0 : j < st0.length := by omega
        simp only [if_pos hj0] at hz2
        exact key j z hj0 hz2 hz1
end
end Go.Proofs.YtfeijijeohfpgaaDoor
namespace Go.Proofs.YtfeijijeohfpgaaDoor
open Go Go.RowKit

theorem ds_cell {w : World} {C : Nat → Prop} {x : Tm} {i : Nat} {d : D} {v : Value} (hd : x.ds[i]? = some d) (h : DM w C d v) : v.oneCell' = true := by
  rw [x.ds_eq] at hd
  match i, hd with
  | 0, hd => cases hd; rw [h.val]; rfl
  | 1, hd => cases hd; rw [h.val]; rfl
  | 2, hd => cases hd; rw [h.val]; rfl
  | 3, hd => cases hd; rw [h.val]; rfl
  | 4, hd => cases hd; rw [h.val]; rfl
  | 5, hd => cases hd; obtain ⟨a, c, rfl⟩ := h.form; rfl
  | 6, hd => cases hd; rw [h.val]; rfl
  | 7, hd => cases hd; obtain ⟨a, c, rfl⟩ := h.form; rfl
  | 8, hd => cases hd; obtain ⟨a, c, rfl⟩ := h.form; rfl
  | n + 9, hd => simp at hd
theorem app_emptyM (p : Option Addr) (c : Nat) (w : World) (ty : TypeId) : (Builtin.append_ #[33, 33] ty #[.slice none 0 0, .slice p 0 c]).run Tryd.prog w = .ok (.slice none 0 0) w := by
  cases p <;> simp [Builtin.append_, go_sem]
theorem app_terms {C : Nat → Prop} {ts : List Tm} {p : Option Addr} {c : Nat} {w : World} (h : DM w C (tmD ts) (.slice p ts.length c)) (hn : ts.length ≤ 2097152) (ty : TypeId) :
    ∃ p' c' bb w', (Builtin.append_ #[33, 33] ty #[.slice none 0 0, .slice p ts.length c]).run Tryd.prog w = .ok (.slice p' ts.length c') w' ∧ PartsM w w' ts.length p' c' bb ∧ Below w.heap.size w w' := by
  by_cases h0 : ts.length = 0
  · rw [h0]
    exact ⟨_, _, 0, _, app_emptyM p c w ty, Or.inl ⟨rfl, rfl, rfl⟩, Below.refl _ _⟩
  obtain ⟨j0, hj, hy0, hy1, hy2⟩ := info_parts infoTm
  have hl : (flatTm ts).length = ts.length * 9 := flatTm_len ts
  obtain ⟨b, o, V, rfl, hC, hb, hp⟩ := h.part (by rw [hl]; omega)
  have hcell : ∀ i, i < ts.length * 9 → w.cell? ⟨b, o + i, none⟩ = some (V i) ∧ (V i).oneCell' = true := fun i hi => by
    obtain ⟨hd, hw⟩ := hp i _ (List.getElem?_eq_getElem (by omega))
    refine ⟨hw w (.of_below (Below.refl _ _)), ?_⟩
    have e := flatTm_at ts (i / 9) (i % 9) (by omega) (by omega)
    rw [show i / 9 * 9 + i % 9 = i by omega, List.getElem?_eq_getElem (by omega)] at e
    exact ds_cell e.symm hd
  obtain ⟨s', w', hr, ho, hg, hwh⟩ := run_app (P := Tryd.prog) w.heap.size 33 ty 35 j0 _ 9 _ Tryd.underlying33 hj hy0 hy1 hy2 rfl (by decide)
    (.slice none 0 0) 0 [] (World.ownsRow_nil w _ _ _) ⟨b, o, none⟩ ts.length c ((List.range (ts.length * 9)).map V) (by simp) (fun j u hu => by
      rw [List.getElem?_map, Option.map_eq_some_iff] at hu
      obtain ⟨i, hi, rfl⟩ := hu
      have hlt := (List.getElem?_eq_some_iff.1 hi).1
      rw [List.length_range] at hlt
      rw [List.getElem?_range hlt] at hi
      obtain rfl := Option.some.inj hi
      rw [show ((⟨b, o, none⟩ : Addr).add j) = ⟨b, o + j, none⟩ by unfold Addr.add; split <;> simp_all]
      exact (hcell _ hlt).1) (fun u hu => by
      obtain ⟨i, hi, rfl⟩ := List.mem_map.1 hu
      exact (hcell i (List.mem_range.1 hi)).2) (by unfold maxLen; omega) (by omega) (Nat.le_refl _)
  have hbel : Below w.heap.size w w' := (Below.refl _ _).grown hg (Nat.le_refl _) (fun k hk => by cases hk)
  rw [Nat.zero_add] at ho
  obtain ⟨hl2, h1 | ⟨g, cap, cur, rfl, hgb, hblk, hnc, hcm, hcs, htk⟩⟩ := ho
  · exact absurd h1.2 h0
  · exact ⟨_, _, g, w', hr, Or.inr ⟨cur, by omega, rfl, hgb, hblk, hcs, hnc, hcm⟩, hbel⟩
theorem PartsM.keep {w w0 wn W : World} {n c bb : Nat} {p : Option Addr} (h : PartsM w wn n p c bb) (hs : w0.heap.size ≤ w.heap.size) (hb : w.heap.size ≤ bb → bb < wn.heap.size → W.heap[bb]? = wn.heap[bb]?) : PartsM w0 W n p c bb := by
  rcases h with h | ⟨cur0, h0, h1, h2, h3, h4⟩
  · exact Or.inl h
  · exact Or.inr ⟨cur0, h0, h1, Nat.le_trans hs h2, (hb h2 (blk_lt h3)).trans h3, h4⟩
end Go.Proofs.YtfeijijeohfpgaaDoor
