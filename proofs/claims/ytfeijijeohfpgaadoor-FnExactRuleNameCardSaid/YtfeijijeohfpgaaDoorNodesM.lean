/-
  The program's iterator over the nodes of a term: each node with its depth, a node before its parts, these in order (gennodes.py writes this text).
-/
import Derived.Test.YtfeijijeohfpgaaDoorRangeT
import Derived.Test.YtfeijijeohfpgaaDoorRowN
import Derived.Test.YtfeijijeohfpgaaDoorAid
import Derived.Test.YtfeijijeohfpgaaDoorTmSpec
import Derived.RangeFuncNested
import Derived.RangeFuncBound
import Derived.RangeFuncCalls
import Derived.Shelf.Abstract
import Derived.IntWalk
import Derived.Shelf.RegionOpen
import Derived.WalkKit
import Derived.TacticsInMore
import Derived.LoopNIn
import Derived.LoopIn
import Derived.Sort.LoopGhostIn
namespace Go.Proofs.YtfeijijeohfpgaaDoor
open Go Go.RowKit Go.Shelf
attribute [local go_sem] Oper.semAt_some

abbrev LM (w : World) (C : Nat → Prop) (l : List Tm) (v : Value) : Prop := DM w C (tmD l) v
abbrev NM (w : World) (C : Nat → Prop) (t : Tm) (v : Value) : Prop := TM w C t v
theorem ntM_mk {w : World} {C : Nat → Prop} {t : Tm} {tp : Option Addr} {tc : Nat} {rp : Option Addr} {rc : Nat} {p : Option Addr} {c : Nat} (h : TM' w C t tp tc rp rc p c) : NM w C t (tmV t tp tc rp rc p c) := ⟨_, _, _, _, _, _, rfl, h⟩

mutual
/-- The nodes in the order of the visit. -/
def walkM : Tm → Nat → List (Tm × Nat)
  | .mk k a b n t r ts, d => (.mk k a b n t r ts, d) :: walkSM ts (d + 1)
def walkSM : List Tm → Nat → List (Tm × Nat)
  | [], _ => []
  | t :: ts, d => walkM t d ++ walkSM ts d
end
theorem walkM_eq (t : Tm) (d : Nat) : walkM t d = (t, d) :: walkSM t.args (d + 1) := by cases t; rfl
theorem walkSM_one (t : Tm) (d : Nat) : walkSM [t] d = walkM t d := by simp [walkSM]
mutual
theorem walkM_length : ∀ (t : Tm) (d : Nat), (walkM t d).length = t.nodes
  | .mk k a b n t r ts, d => by simp only [walkM, List.length_cons, walkSM_length ts, Tm.nodes]; omega
theorem walkSM_length : ∀ (ts : List Tm) (d : Nat), (walkSM ts d).length = nodesM ts
  | [], d => by simp [walkSM, nodesM]
  | t :: ts, d => by simp only [walkSM, List.length_append, walkSM_length ts, walkM_length t, nodesM]
end
/-- What waits, the next list last: a list, its slice's value. -/
abbrev WaitM := List (List Tm × Value)
def rWM : WaitM → List (Tm × Nat)
  | [] => []
  | e :: r => walkSM e.1 (r.length + 1) ++ rWM r
def stWalkM (st : WaitM) : List (Tm × Nat) := rWM st.reverse
theorem stWalkM_snoc (st : WaitM) (e : List Tm × Value) : stWalkM (st ++ [e]) = walkSM e.1 (st.length + 1) ++ stWalkM st := by simp [stWalkM, rWM]
theorem stWalkM_nil : stWalkM [] = [] := rfl

theorem wsndM_last (st : WaitM) (e : List Tm × Value) : ((st ++ [e]).map (·.2))[st.length]? = some e.2 := by simp
theorem wsndM_take (st : WaitM) (e : List Tm × Value) : ((st ++ [e]).map (·.2)).take (st.length * 1) = st.map (·.2) := by simp
theorem wsndM_set (st : WaitM) (e : List Tm × Value) (l : List Tm) (u : Value) : ((st ++ [e]).map (·.2)).set st.length u = (st ++ [(l, u)]).map (·.2) := by
  simp

theorem infoLM : (Tryd.prog.info? 33).map (fun i => (i.zero, i.size, i.bytes)) = some (some (.slice none 0 0), 1, 24) := by kernel_rfl

/-- What the iterator knows between two rounds. -/
structure MidM (W wr : World) (C : Nat → Prop) (t : Tm) (tp : Option Addr) (tc : Nat) (rp : Option Addr) (rc : Nat) (p : Option Addr) (c : Nat) (J : List (Tm × Nat) → World → Prop) (pre : List (Tm × Nat)) (st : WaitM) (g cap : Nat) : Prop where
  own : wr.ownsRow (W.heap.size + 1) 33 1 (.slice (some ⟨g, 0, none⟩) st.length cap) st.length (st.map (·.2))
  j : J pre wr
  ts : ∀ e ∈ st, LM W C e.1 e.2 ∨ e = ([t], .slice (some ⟨W.heap.size, 0, none⟩) 1 1)
  stays : Stays C W wr
  size : W.heap.size ≤ wr.heap.size
  root : wr.heap[W.heap.size]? = some (.cells (tmC t tp tc rp rc p c) 35 (0, 0))
  node : TM' W C t tp tc rp rc p c
  cnt : st.length ≤ pre.length + 1

theorem MidM.lt {W wr : World} {C : Nat → Prop} {t : Tm} {tp : Option Addr} {tc : Nat} {rp : Option Addr} {rc : Nat} {p : Option Addr} {c : Nat} {J : List (Tm × Nat) → World → Prop} {pre : List (Tm × Nat)} {st : WaitM} {g cap : Nat} (h : MidM W wr C t tp tc rp rc p c J pre st g cap) : W.heap.size < wr.heap.size := (Array.getElem?_eq_some_iff.1 h.root).1

/-- The next list's first node: where it lies; the list without it. -/
theorem MidM.open {W wr : World} {C : Nat → Prop} {t : Tm} {tp : Option Addr} {tc : Nat} {rp : Option Addr} {rc : Nat} {p : Option Addr} {c : Nat} {J : List (Tm × Nat) → World → Prop} {pre : List (Tm × Nat)} {st : WaitM} {g cap : Nat} {x : Tm} {l : List Tm} {v : Value} (h : MidM W wr C t tp tc rp rc p c J pre (st ++ [(x :: l, v)]) g cap) :
    ∃ (b o c : Nat) (tp' : Option Addr) (tc' : Nat) (rp' : Option Addr) (rc' : Nat) (p' : Option Addr) (c' : Nat), v = .slice (some ⟨b, o, none⟩) (l.length + 1) c ∧ l.length + 1 ≤ c ∧ c ≤ 9223372036854775807 ∧ (C b ∨ b = W.heap.size) ∧ b < wr.heap.size ∧
      At9 wr b o x tp' tc' rp' rc' p' c' ∧ TM' W C x tp' tc' rp' rc' p' c' ∧ ∀ q, (l ≠ [] → q = some ⟨b, o + 9, none⟩) → LM W C l (.slice q l.length (c - 1)) := by
  rcases h.ts (x :: l, v) (by simp) with hT | he
  · simp only at hT
    obtain ⟨q0, d0, hv0⟩ := hT.form
    have hT0 := hT
    rw [hv0] at hT0
    obtain ⟨b', o', tp', tc', rp', rc', p', c', hq, hC', hb', h9, hx⟩ := tm_part hT0 0 (by simp)
    cases hT with
    | @rows _ _ _ b o c _ V h1 hc hm hl hC hb hv hr =>
      simp only [Value.slice.injEq] at hv0
      obtain ⟨e1, _, _⟩ := hv0
      have e2 := e1.trans hq
      simp only [Option.some.injEq, Addr.mk.injEq] at e2
      obtain ⟨rfl, rfl, _⟩ := e2
      have h9' := h9 wr h.stays
      rw [Nat.zero_mul, Nat.add_zero] at h9'
      refine ⟨b, o, c, tp', tc', rp', rc', p', c', rfl, hc, hm, Or.inl hC, Nat.lt_of_lt_of_le hb h.size, h9', hx, fun q hq => ?_⟩
      have hf : flatTm (x :: l) = x.ds ++ flatTm l := rfl
      have hsh : ∀ i, (flatTm (x :: l))[i + 9]? = (flatTm l)[i]? := fun i => by
        rw [hf, List.getElem?_append_right (by rw [x.ds_len]; omega), x.ds_len, Nat.add_sub_cancel]
      by_cases hl' : l = []
      · subst hl'; exact .nil _ _ _ _
      · rw [hq hl']
        have hl1 : 1 ≤ l.length := by cases l with | nil => exact absurd rfl hl' | cons => simp
        simp only [List.length_cons] at hc
        refine .rows (fun i => V (i + 9)) hl1 (by omega) (by omega) (flatTm_len l) hC hb (fun i d hi => ?_) (fun i d hi => hr (i + 9) d (by rw [hsh]; exact hi))
        have := hv (i + 9) d (by rw [hsh]; exact hi)
        rw [show o + (i + 9) = o + 9 + i by omega] at this; exact this
  · simp only [Prod.mk.injEq, List.cons.injEq] at he
    obtain ⟨⟨rfl, rfl⟩, rfl⟩ := he
    refine ⟨W.heap.size, 0, 1, tp, tc, rp, rc, p, c, rfl, by simp, by omega, Or.inr rfl, h.lt, ?_, h.node, fun q hq => ?_⟩
    · have hr := h.root
      exact ⟨cell_of_blk hr 0, cell_of_blk hr 1, cell_of_blk hr 2, cell_of_blk hr 3, cell_of_blk hr 4, cell_of_blk hr 5, cell_of_blk hr 6, cell_of_blk hr 7, cell_of_blk hr 8⟩
    · exact .nil _ _ _ _

theorem argsM_any (t : Tm) (tp : Option Addr) (tc : Nat) (rp : Option Addr) (rc : Nat) (p : Option Addr) (c : Nat) (w : World) : Calls Tryd.prog 75 #[tmV t tp tc rp rc p c] w fun e w' => e = .returned (.slice p t.args.length c) ∧ Below w.heap.size w w' := by
  go_enter Tryd.func75, Tryd.ntmps75
  go_wp2
  go_ret
  exact ⟨rfl, (Below.refl _ _).alloc (Nat.le_refl _) _⟩

set_option maxRecDepth 100000 in
set_option maxHeartbeats 4000000 in
theorem nodesM_it (l Bt Bp : Nat) (t : Tm) (tp : Option Addr) (tc : Nat) (rp : Option Addr) (rc : Nat) (p : Option Addr) (c : Nat) (Cb C : Nat → Prop) (W : World) (J Jx : List (Tm × Nat) → World → Prop)
    (hBt : W.heap[Bt]? = some (.cells (tmC t tp tc rp rc p c) 35 (0, 0))) (hBp : W.heap[Bp]? = some (.cells #[.func (.func 75) #[] #[]] 83 (0, 0))) (hT : TM' W C t tp tc rp rc p c) (hn : t.nodes ≤ 2097153)
    (hCb : ∀ b, Cb b → b < W.heap.size) (hC : ∀ b, C b → ¬ Cb b ∧ b < W.heap.size) (hCp : C Bp)
    (hJ : ∀ pre A B, J pre A → Below W.heap.size A B → J pre B)
    (hY : ∀ pre x v d W1, J pre W1 → pre ++ [(x, d)] <+: walkM t 1 → NM W1 C x v → YieldAt Fence.wide 0 Tryd.prog l #[v, .int .i64 (d : Nat)] W1 fun e W' =>
      (e = .returned (.bool true) ∧ J (pre ++ [(x, d)]) W' ∧ Holds Cb W1 W') ∨ (e = .returned (.bool false) ∧ Jx (pre ++ [(x, d)]) W'))
    (h0 : J [] W) :
    CallsIn Fence.wide 1 Tryd.prog 106 #[.func (.yield l) #[] #[], .pointer (some ⟨Bt, 0, none⟩), .pointer (some ⟨Bp, 0, none⟩)] W fun e W' =>
      (∃ v, e = .returned v) ∧ (J (walkM t 1) W' ∨ ∃ pre, pre <+: walkM t 1 ∧ Jx pre W') := by
  obtain ⟨i0, hi, hz0, hz1, hz2⟩ := info_parts infoLM
  have HT := Lib.hid hT
  have HY := Lib.hid hY
  have HJ := Lib.hid hJ
  have HJ0 := Lib.hid h0
  have HCb := Lib.hid hCb
  have HC := Lib.hid hC
  have HCP := Lib.hid hCp
  have HBP := Lib.hid hBp
  have HN := Lib.hid hn
  obtain ⟨k0, k1, k2, k3, k4, k5, k6, k7, k8⟩ := Bx9.of hBt
  have kp := cell_of_blk hBp 0
  simp only [List.getElem?_toArray, List.getElem?_cons_zero] at kp
  clear hT hY hJ h0 hCb hC hBt hBp hn
  refine callsIn_of_wp Tryd.func106 rfl trivial ?_ rfl
  simp only [Tryd.ntmps106, List.size_toArray, List.length_cons, List.length_nil, Nat.reduceAdd, Nat.reduceSub, Array.replicate_succ, Array.replicate_zero, List.push_toArray, List.append_toArray, List.nil_append, List.cons_append]
  gi_wp2_with fail
  gi_loopg [4] (2 * (walkM t 1).length + 1) (fun k v wr => ∃ (pre : List (Tm × Nat)) (st : WaitM) (g cap : Nat), v = .slice (some ⟨g, 0, none⟩) st.length cap ∧ k = 2 * (stWalkM st).length + st.length ∧ pre ++ stWalkM st = walkM t 1 ∧ MidM W wr C t tp tc rp rc p c J pre st g cap)
  case atStart =>
    refine ⟨[], [([t], .slice (some ⟨W.heap.size, 0, none⟩) 1 1)], W.heap.size + 1, 1, rfl, by simp [stWalkM, rWM, walkSM_one], by simp [stWalkM, rWM, walkSM_one], ?_⟩
    have hb : Below W.heap.size W ((W.alloc (.cells (tmC t tp tc rp rc p c) 35)).alloc (.cells #[.slice (some ⟨W.heap.size, 0, none⟩) 1 1] 33)) := ((Below.refl _ W).alloc (Nat.le_refl _) _).alloc (by simp) _
    refine ⟨?_, HJ.out _ _ _ HJ0.out hb, ?_, .of_below hb, hb.size, ?_, HT.out, by simp⟩
    · have h1 := World.ownsRow_lit (base := W.heap.size + 1) (e := 33) (size := 1) (W.alloc (.cells (tmC t tp tc rp rc p c) 35)) #[.slice (some ⟨W.heap.size, 0, none⟩) 1 1] 1 (by simp) (by unfold maxLen; omega) rfl
      rw [show (W.alloc (.cells (tmC t tp tc rp rc p c) 35)).heap.size = W.heap.size + 1 by simp] at h1
      exact h1
    · intro e he
      simp only [List.mem_singleton] at he
      exact Or.inr he
    · rw [Below.heap_alloc _ _ _ (by simp)]
      exact blk_new _ _
  case round =>
    rename World => wo
    obtain ⟨pre, st, g, cap, rfl, rfl, hord, hM⟩ := hrel
    rcases snoc_cases st with rfl | ⟨st0, ⟨ls, sl⟩, rfl⟩
    · have HM := Lib.hid hM
      have HO := Lib.hid hord
      clear hM hord
      gi_wp2
      go_end0
      have hp : pre = walkM t 1 := by have := HO.out; simpa [stWalkM, rWM] using this
      exact ⟨⟨_, rfl⟩, .inl (hp ▸ HM.out.j)⟩
    · have hlen : (st0 ++ [((ls, sl) : List Tm × Value)]).length = st0.length + 1 := by simp
      have hown := hM.own
      rw [hlen] at hown
      rw [hlen]
      obtain ⟨hcap1, hcap2, hg1, hg2⟩ := row_cap hown
      have k0 := (hown.cellAt st0.length (by omega)).trans (wsndM_last st0 _)
      have kz := hown.frozenAt st0.length
      simp only at k0
      unfold maxLen at hcap2
      have i0' : (0 : Int) ≤ (st0.length : Int) := Int.natCast_nonneg _
      have i1' : (st0.length : Int) < ((st0.length : Int) + 1) := by omega
      have hcnt : st0.length ≤ 2097153 := by
        have h1 := hM.cnt
        have h2 := congrArg List.length hord
        have h3 := HN.out
        rw [List.length_append, walkM_length] at h2
        rw [hlen] at h1
        omega
      cases ls with
      | nil =>
        have HM := Lib.hid hM
        have HO := Lib.hid hord
        have HOWN := Lib.hid hown
        obtain ⟨a, c0, hsl⟩ : ∃ a c, sl = .slice a 0 c := by
          rcases hM.ts ([], sl) (by simp) with h1 | h1
          · exact h1.form
          · simp at h1
        subst hsl
        clear hM hord hown
        gi_wp2_with fail
        go_roundg (2 * (stWalkM st0).length + st0.length)
        case rel =>
          have h1 := row_take HOWN.out (Nat.le_succ st0.length)
          rw [wsndM_take] at h1
          refine ⟨pre, st0, g, cap, rfl, rfl, by have := HO.out; rwa [stWalkM_snoc] at this, h1, HM.out.j, fun e he => HM.out.ts e (List.mem_append_left _ he), HM.out.stays, HM.out.size, HM.out.root, HM.out.node, ?_⟩
          have := HM.out.cnt
          rw [List.length_append] at this
          omega
        case measure =>
          rw [stWalkM_snoc, List.length_append, List.length_append]
          simp only [walkSM, List.length_nil, List.length_singleton]
          omega
      | cons x ls =>
        obtain ⟨b, o, c0, tp', tc', rp', rc', p', c', rfl, hlc, hc63, hbC, hbw, hcell, hnx, htail⟩ := hM.open
        have hbg : b ≠ g := by
          have h1 := hg1
          rcases hbC with h2 | h2
          · have := (HC.out b h2).2
            omega
          · omega
        obtain ⟨q, hq⟩ : ∃ q, (if c0 = 1 then some (⟨b, o, none⟩ : Addr) else some ⟨b, o + 9, none⟩) = q := ⟨_, rfl⟩
        have htl : LM W C ls (.slice q ls.length (c0 - 1)) := htail q (fun hne => by
          have h1 : 1 ≤ ls.length := by cases ls with | nil => exact absurd rfl hne | cons => simp
          rw [← hq, if_neg (by omega)])
        obtain ⟨hst, hgr⟩ := hown.stored st0.length (.slice q ls.length (c0 - 1))
        rw [wsndM_set st0 _ ls] at hst
        have hb1 : Below (W.heap.size + 1) wo (wo.setCell ⟨g, st0.length, none⟩ (.slice q ls.length (c0 - 1))) := (Below.refl _ wo).setCell (p := ⟨g, st0.length, none⟩) hg1 _
        have hcC : ∀ z, C z → z < W.heap.size := fun z hz => (HC.out z hz).2
        have hst1 : Stays C W (wo.setCell ⟨g, st0.length, none⟩ (.slice q ls.length (c0 - 1))) := hM.stays.trans ⟨hb1.size, fun z hz _ => hb1.block z (by have := hcC z hz; omega)⟩
        have hpre : pre ++ [(x, st0.length + 1)] <+: walkM t 1 := ⟨walkSM x.args (st0.length + 1 + 1) ++ (walkSM ls (st0.length + 1) ++ stWalkM st0), by rw [← hord, stWalkM_snoc]; simp only [walkSM, walkM_eq, List.cons_append, List.append_assoc, List.nil_append]⟩
        obtain ⟨fn, tmps, assign, body, hy, hR⟩ := HY.out pre x (tmV x tp' tc' rp' rc' p' c') (st0.length + 1) _ (HJ.out _ _ _ hM.j (hb1.mono (by omega))) hpre (ntM_mk (hnx.stays hst1))
        rw [show ((st0.length + 1 : Nat) : Int) = (st0.length : Int) + 1 from rfl] at hy
        have hroot : (wo.setCell ⟨g, st0.length, none⟩ (.slice q ls.length (c0 - 1))).heap[W.heap.size]? = some (.cells (tmC t tp tc rp rc p c) 35 (0, 0)) := (hb1.block _ (by omega)).trans hM.root
        have HM := Lib.hid hM
        have HO := Lib.hid hord
        have HST := Lib.hid hst
        have HB1 := Lib.hid hb1
        have HST1 := Lib.hid hst1
        have HPRE := Lib.hid hpre
        have HR := Lib.hid hR
        have HTL := Lib.hid htl
        have HNX := Lib.hid hnx
        have HBC := Lib.hid hbC
        have HROOT := Lib.hid hroot
        have HQ := Lib.hid hlc
        obtain ⟨f0, f1, f2, f3, f4, f5, f6, f7, f8⟩ := hcell
        have hl1 : (1 : Int) ≤ ((ls.length : Int) + 1) := by omega
        clear hM hord hown hst hgr hb1 hst1 hpre hR htl htail hnx hbC hcC hroot
        gi_wp2_with fail
        refine HR.out.mono ?_
        rintro e W3 (⟨rfl, hJ3, hH3⟩ | ⟨rfl, hJx3⟩)
        · have hbnC : ¬ Cb b := by
            rcases HBC.out with h1 | h1
            · exact (HC.out b h1).1
            · intro hc; have := HCb.out b hc; omega
          have hgnC : ¬ Cb g := fun hc => by have := HCb.out g hc; omega
          have hs1 := HB1.out.size
          have hb3 : W3.heap[b]? = wo.heap[b]? := (hH3.2 b (by omega) hbnC).trans (Below.heap_setCell _ _ _ _ hbg)
          have hp3 : W3.heap[Bp]? = W.heap[Bp]? := by
            have h1 := HC.out Bp hCp
            have h2 := HM.out.size
            rw [hH3.2 Bp (by omega) h1.1]
            exact HST1.out.2 Bp hCp h1.2
          have hown3 := row_of_block HST.out (hH3.2 g (by omega) hgnC)
          have hr3 : W3.heap[W.heap.size]? = some (.cells (tmC t tp tc rp rc p c) 35 (0, 0)) := by
            rw [hH3.2 W.heap.size (by have := HM.out.lt; omega) (fun hc => by have := HCb.out _ hc; omega)]
            exact HROOT.out
          have hlen3 : (st0 ++ [(ls, Value.slice q ls.length (c0 - 1))]).length = st0.length + 1 := by simp
          have hM3 : MidM W W3 C t tp tc rp rc p c J (pre ++ [(x, st0.length + 1)]) (st0 ++ [(ls, .slice q ls.length (c0 - 1))]) g cap := by
            refine ⟨?_, hJ3, fun e he => ?_, HST1.out.trans ⟨hH3.1, fun z hz hl => hH3.2 z hl (HC.out z hz).1⟩, ?_, hr3, HM.out.node, ?_⟩
            · rw [hlen3]; exact hown3
            · rcases List.mem_append.1 he with he | he
              · exact HM.out.ts e (List.mem_append_left _ he)
              · simp only [List.mem_singleton] at he
                subst he
                exact Or.inl HTL.out
            · have := hH3.1
              have := HM.out.size
              omega
            · have := HM.out.cnt
              rw [hlen] at this
              rw [hlen3, List.length_append, List.length_singleton]
              omega
          have g0 := (World.cell?_of_block (a := ⟨b, o, none⟩) hb3).trans f0
          have g1 := (World.cell?_of_block (a := ⟨b, o + 1, none⟩) hb3).trans f1
          have g2 := (World.cell?_of_block (a := ⟨b, o + 2, none⟩) hb3).trans f2
          have g3 := (World.cell?_of_block (a := ⟨b, o + 3, none⟩) hb3).trans f3
          have g4 := (World.cell?_of_block (a := ⟨b, o + 4, none⟩) hb3).trans f4
          have g5 := (World.cell?_of_block (a := ⟨b, o + 5, none⟩) hb3).trans f5
          have g6 := (World.cell?_of_block (a := ⟨b, o + 6, none⟩) hb3).trans f6
          have g7 := (World.cell?_of_block (a := ⟨b, o + 7, none⟩) hb3).trans f7
          have g8 := (World.cell?_of_block (a := ⟨b, o + 8, none⟩) hb3).trans f8
          have kp3 := cell_of_blk (hp3.trans HBP.out) 0
          simp only [List.getElem?_toArray, List.getElem?_cons_zero] at kp3
          have HM3 := Lib.hid hM3
          have HOWN3 := Lib.hid hown3
          have hsz3 := hM3.lt
          clear hJ3 hH3 hown3 hM3 hy HR k0 kz hb3 hp3 hr3 hbnC hgnC f0 f1 f2 f3 f4 f5 f6 f7 f8 HB1 HST1 HST
          gi_wp2_with fail
          refine wpIn_wide.2 ?_
          go_region_law (first
            | (refine step_app1 (w0 := w1) (base := W.heap.size + 1) (v := .slice (some ⟨g, 0, none⟩) (st0.length + 1) cap) (n := st0.length + 1) (xs := (st0 ++ [(ls, Value.slice q ls.length (c0 - 1))]).map (·.2)) (cs := [.slice p' x.args.length c']) rfl (.tmp 40) (.tmp 46) rfl Tryd.underlying120 hi hz0 hz1 hz2 rfl (by decide) rfl (row_below HOWN3.out ((Below.refl W3.heap.size W3).drew.trans hb1)) _ rfl (by simp) rfl (fun u hu => by simp at hu; subst hu; rfl) (by unfold maxLen; omega) (by omega) (by have := hb1.size; simp at this; omega) ?_; intro w' g2 cap2 hA)
            | (go_simp; go_at_call 75; refine (argsM_any _ _ _ _ _ _ _ _).mono ?_; rintro e w1 ⟨rfl, hb1⟩))
          all_goals
            have HA := Lib.hid hA
            have HB := Lib.hid hb1
            clear hA hb1
            gi_wp2_with fail
            go_roundg (2 * (stWalkM ((st0 ++ [(ls, Value.slice q ls.length (c0 - 1))]) ++ [(x.args, .slice p' x.args.length c')])).length + (st0.length + 2))
            case rel =>
              have hb3 : Below W3.heap.size W3 w1 := (Below.refl W3.heap.size W3).drew.trans HB.out
              have hlen3 : (st0 ++ [(ls, Value.slice q ls.length (c0 - 1))]).length = st0.length + 1 := by simp
              have hg3 := (row_cap HOWN3.out).2.2
              have hs3 := hb3.size
              have hbw : Below (W.heap.size + 1) W3 w' := (hb3.mono (by omega)).trans HA.out.below
              refine ⟨pre ++ [(x, st0.length + 1)], (st0 ++ [(ls, .slice q ls.length (c0 - 1))]) ++ [(x.args, .slice p' x.args.length c')], g2, cap2, by rw [List.length_append, hlen3]; rfl, by rw [List.length_append, hlen3]; rfl, ?_, ?_⟩
              · rw [stWalkM_snoc, hlen3, stWalkM_snoc, ← HO.out, stWalkM_snoc]
                simp only [walkSM, walkM_eq, List.cons_append, List.append_assoc, List.nil_append]
              · refine ⟨?_, HJ.out _ _ _ HM3.out.j (hbw.mono (by omega)), fun e he => ?_, HM3.out.stays.trans ⟨hbw.size, fun z hz _ => hbw.block z (by have := (HC.out z hz).2; omega)⟩, by have := hbw.size; have := HM3.out.size; omega, (hbw.block _ (by omega)).trans HM3.out.root, HM3.out.node, ?_⟩
                · rw [List.map_append, List.length_append, hlen3]
                  exact HA.out.own
                · rcases List.mem_append.1 he with he | he
                  · exact HM3.out.ts e he
                  · simp only [List.mem_singleton] at he
                    subst he
                    exact Or.inl (TM'.args HNX.out)
                · have := HM.out.cnt
                  rw [hlen] at this
                  simp only [List.length_append, List.length_cons, List.length_nil]
                  omega
            case measure =>
              have h1 := HO.out
              simp only [stWalkM_snoc, walkSM, walkM_eq, List.length_append, List.length_cons, List.length_nil, Nat.zero_add]
              omega
        · gi_wp2_with fail
          refine bodyPost_ret (results_none rfl _ _ _) rfl ?_
          exact ⟨⟨_, rfl⟩, .inr ⟨pre ++ [(x, st0.length + 1)], HPRE.out, hJx3⟩⟩
#print axioms nodesM_it
end Go.Proofs.YtfeijijeohfpgaaDoor

