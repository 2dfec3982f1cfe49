/-
  Several texts of the proof in one (each says below what it holds): NodesD LvI RegR LvJ LvP LvK LvG TmEq.
-/
import Derived.Test.YteoeefmdfalnjaaGreatDoorLv11
import Derived.Test.YteoeefmdfalnjaaGreatDoorLv13
import Derived.Test.YteoeefmdfalnjaaGreatDoorLv1
import Derived.Lib.SmallJoins
import Derived.OrdersIn
import Derived.RangeFuncCalls
import Derived.OwnWalkIn
set_option linter.unusedVariables false
set_option linter.unusedSimpArgs false
namespace Go.Proofs.YteoeefmdfalnjaaGreatDoor
open Go Go.RowKit Go.Shelf
attribute [local go_sem] Oper.semAt_some

def GoodND (C : Nat → Prop) (x : Tm × Value × Nat) (Y : Nat → Prop) (W : World) : Prop := NM W C x.1 x.2.1 ∧ ∀ z, ¬ Y z
structure MidD (W wr : World) (C Ct : Nat → Prop) (t : Tm) (tp : Option Addr) (tc : Nat) (rp : Option Addr) (rc : Nat) (p : Option Addr) (c : Nat) (J : List (Tm × Nat) → (Nat → Prop) → (Nat → Prop) → World → Prop) (B N : Nat → Prop) (pre : List (Tm × Nat)) (st : WaitM) (g cap : Nat) : Prop where
  own : wr.ownsRow (W.heap.size + 1) 27 1 (.slice (some ⟨g, 0, none⟩) st.length cap) st.length (st.map (·.2))
  j : J pre B N wr
  ts : ∀ e ∈ st, LM W Ct e.1 e.2 ∨ e = ([t], .slice (some ⟨W.heap.size, 0, none⟩) 1 1)
  stays : Stays C W wr
  size : W.heap.size ≤ wr.heap.size
  root : wr.heap[W.heap.size]? = some (.cells (tmC t tp tc rp rc p c) 29 (0, 0))
  node : TM' W Ct t tp tc rp rc p c
  cnt : st.length ≤ pre.length + 1
  bl : ∀ b, B b → b < wr.heap.size ∧ b ≠ g ∧ b ≠ W.heap.size ∧ ¬ C b
  nz : ∀ z, ¬ N z
  sub : ∀ z, Ct z → C z

theorem MidD.lt {W wr : World} {C Ct : Nat → Prop} {t : Tm} {tp : Option Addr} {tc : Nat} {rp : Option Addr} {rc : Nat} {p : Option Addr} {c : Nat} {J : List (Tm × Nat) → (Nat → Prop) → (Nat → Prop) → World → Prop} {B N : Nat → Prop} {pre : List (Tm × Nat)} {st : WaitM} {g cap : Nat} (h : MidD W wr C Ct t tp tc rp rc p c J B N pre st g cap) : W.heap.size < wr.heap.size := (Array.getElem?_eq_some_iff.1 h.root).1
theorem MidD.open {W wr : World} {C Ct : Nat → Prop} {t : Tm} {tp : Option Addr} {tc : Nat} {rp : Option Addr} {rc : Nat} {p : Option Addr} {c : Nat} {J : List (Tm × Nat) → (Nat → Prop) → (Nat → Prop) → World → Prop} {B N : Nat → Prop} {pre : List (Tm × Nat)} {st : WaitM} {g cap : Nat} {x : Tm} {l : List Tm} {v : Value} (h : MidD W wr C Ct t tp tc rp rc p c J B N pre (st ++ [(x :: l, v)]) g cap) :
    ∃ (b o c : Nat) (tp' : Option Addr) (tc' : Nat) (rp' : Option Addr) (rc' : Nat) (p' : Option Addr) (c' : Nat), v = .slice (some ⟨b, o, none⟩) (l.length + 1) c ∧ l.length + 1 ≤ c ∧ c ≤ 9223372036854775807 ∧ (Ct b ∨ b = W.heap.size) ∧ b < wr.heap.size ∧
      At9 wr b o x tp' tc' rp' rc' p' c' ∧ TM' W Ct x tp' tc' rp' rc' p' c' ∧ ∀ q, (l ≠ [] → q = some ⟨b, o + 9, none⟩) → LM W Ct l (.slice q l.length (c - 1)) := by
  rcases h.ts (x :: l, v) (by simp) with hT | he
  · simp only at hT
    obtain ⟨q0, d0, hv0⟩ := hT.form
    have hT0 := hT
    rw [hv0] at hT0
    obtain ⟨b', o', tp', tc', rp', rc', p', c', hq, hC', hb', h9, hx⟩ := tm_part hT0 0 (by simp)
    cases hT with
    | @rows _ _ _ b o c _ V h1 hc hm hl hC hb hv hr =>
      simp only [Value.slice.injEq] at hv0
      obtain ⟨e1, _, _⟩ := hv0
      have e2 := e1.trans hq
      simp only [Option.some.injEq, Addr.mk.injEq] at e2
      obtain ⟨rfl, rfl, _⟩ := e2
      have h9' := h9 wr ⟨h.stays.1, fun z hz hl => h.stays.2 z (h.sub z hz) hl⟩
      rw [Nat.zero_mul, Nat.add_zero] at h9'
      refine ⟨b, o, c, tp', tc', rp', rc', p', c', rfl, hc, hm, Or.inl hC, Nat.lt_of_lt_of_le hb h.size, h9', hx, fun q hq => ?_⟩
      have hf : flatTm (x :: l) = x.ds ++ flatTm l := rfl
      have hsh : ∀ i, (flatTm (x :: l))[i + 9]? = (flatTm l)[i]? := fun i => by
        rw [hf, List.getElem?_append_right (by rw [x.ds_len]; omega), x.ds_len, Nat.add_sub_cancel]
      by_cases hl' : l = []
      · subst hl'; exact .nil _ _ _ _
      · rw [hq hl']
        have hl1 : 1 ≤ l.length := by cases l with | nil => exact absurd rfl hl' | cons => simp
        simp only [List.length_cons] at hc
        refine .rows (fun i => V (i + 9)) hl1 (by omega) (by omega) (flatTm_len l) hC hb (fun i d hi => ?_) (fun i d hi => hr (i + 9) d (by rw [hsh]; exact hi))
        have := hv (i + 9) d (by rw [hsh]; exact hi)
        rw [show o + (i + 9) = o + 9 + i by omega] at this; exact this
  · simp only [Prod.mk.injEq, List.cons.injEq] at he
    obtain ⟨⟨rfl, rfl⟩, rfl⟩ := he
    refine ⟨W.heap.size, 0, 1, tp, tc, rp, rc, p, c, rfl, by simp, by omega, Or.inr rfl, h.lt, ?_, h.node, fun q hq => ?_⟩
    · have hr := h.root
      exact ⟨cell_of_blk hr 0, cell_of_blk hr 1, cell_of_blk hr 2, cell_of_blk hr 3, cell_of_blk hr 4, cell_of_blk hr 5, cell_of_blk hr 6, cell_of_blk hr 7, cell_of_blk hr 8⟩
    · exact .nil _ _ _ _

set_option maxRecDepth 100000 in
set_option maxHeartbeats 4000000 in
theorem nodesD_it (l Bt Bp : Nat) (t : Tm) (tp : Option Addr) (tc : Nat) (rp : Option Addr) (rc : Nat) (p : Option Addr) (c : Nat) (C Ct B0 : Nat → Prop) (W : World) (J Jx : List (Tm × Nat) → (Nat → Prop) → (Nat → Prop) → World → Prop)
    (hBt : W.heap[Bt]? = some (.cells (tmC t tp tc rp rc p c) 29 (0, 0))) (hBp : W.heap[Bp]? = some (.cells #[.func (.func 121) #[] #[]] 126 (0, 0))) (hT : TM' W Ct t tp tc rp rc p c) (hn : t.nodes ≤ 2097153)
    (hC : ∀ b, C b → b < W.heap.size) (hCB : ∀ b, C b → ¬ B0 b) (hB0 : ∀ b, B0 b → b < W.heap.size) (hCp : C Bp) (hCt : ∀ z, Ct z → C z)
    (hJ : ∀ pre B N A A', J pre B N A → Keep W.heap.size (fun z => B z ∨ N z) A A' → J pre B N A')
    (hY : ∀ pre x Y B N W1, J pre B N W1 → pre ++ [keyNM x] <+: walkM t 1 → GoodND Ct x Y W1 → (∀ z, Y z → ¬ B z) → YieldAt Fence.wide 0 Tryz.prog l (encNM x) W1 fun e W' =>
      ∃ B' N', Grew B B' W1.heap.size W'.heap.size ∧ (∀ z, N' z → N z ∨ Y z) ∧ ((e = .returned (.bool true) ∧ J (pre ++ [keyNM x]) B' N' W' ∧ Holds B W1 W') ∨ (e = .returned (.bool false) ∧ Jx (pre ++ [keyNM x]) B' N' W' ∧ Holds B W1 W')))
    (h0 : J [] B0 (fun _ => False) W) :
    CallsIn Fence.wide 1 Tryz.prog 161 #[.func (.yield l) #[] #[], .pointer (some ⟨Bt, 0, none⟩), .pointer (some ⟨Bp, 0, none⟩)] W fun e W' =>
      (∃ v, e = .returned v) ∧ ((∃ B' N', J (walkM t 1) B' N' W') ∨ ∃ pre B' N', pre <+: walkM t 1 ∧ Jx pre B' N' W') := by
  obtain ⟨i0, hi, hz0, hz1, hz2⟩ := info_parts infoLM
  have HT := Lib.hid hT
  have HY := Lib.hid hY
  have HJ := Lib.hid hJ
  have HJ0 := Lib.hid h0
  have HCB := Lib.hid hCB
  have HB0 := Lib.hid hB0
  have HC := Lib.hid hC
  have HCP := Lib.hid hCp
  have HBP := Lib.hid hBp
  have HN := Lib.hid hn
  obtain ⟨k0, k1, k2, k3, k4, k5, k6, k7, k8⟩ := Bx9.of hBt
  have kp := cell_of_blk hBp 0
  simp only [List.getElem?_toArray, List.getElem?_cons_zero] at kp
  have HSUB := Lib.hid hCt
  clear hT hY hJ h0 hCB hB0 hC hBt hBp hn hCt
  refine callsIn_of_wp Tryz.func161 rfl trivial ?_ rfl
  simp only [Tryz.ntmps161, List.size_toArray, List.length_cons, List.length_nil, Nat.reduceAdd, Nat.reduceSub, Array.replicate_succ, Array.replicate_zero, List.push_toArray, List.append_toArray, List.nil_append, List.cons_append]
  gi_wp2_with fail
  gi_loopg [4] (2 * (walkM t 1).length + 1) (fun k v wr => ∃ (pre : List (Tm × Nat)) (st : WaitM) (g cap : Nat) (B N : Nat → Prop), v = .slice (some ⟨g, 0, none⟩) st.length cap ∧ k = 2 * (stWalkM st).length + st.length ∧ pre ++ stWalkM st = walkM t 1 ∧ MidD W wr C Ct t tp tc rp rc p c J B N pre st g cap)
  case atStart =>
    refine ⟨[], [([t], .slice (some ⟨W.heap.size, 0, none⟩) 1 1)], W.heap.size + 1, 1, B0, fun _ => False, rfl, by simp [stWalkM, rWM, walkSM_one], by simp [stWalkM, rWM, walkSM_one], ?_⟩
    have hb : Below W.heap.size W ((W.alloc (.cells (tmC t tp tc rp rc p c) 29)).alloc (.cells #[.slice (some ⟨W.heap.size, 0, none⟩) 1 1] 27)) := ((Below.refl _ W).alloc (Nat.le_refl _) _).alloc (by simp) _
    refine ⟨?_, HJ.out _ _ _ _ _ HJ0.out (.of_below (Nat.le_refl _) hb), ?_, .of_below hb, hb.size, ?_, HT.out, by simp, fun b hb' => ?_, fun z hz => hz, HSUB.out⟩
    · have h1 := World.ownsRow_lit (base := W.heap.size + 1) (e := 27) (size := 1) (W.alloc (.cells (tmC t tp tc rp rc p c) 29)) #[.slice (some ⟨W.heap.size, 0, none⟩) 1 1] 1 (by simp) (by unfold maxLen; omega) rfl
      rw [show (W.alloc (.cells (tmC t tp tc rp rc p c) 29)).heap.size = W.heap.size + 1 by simp] at h1
      exact h1
    · intro e he
      simp only [List.mem_singleton] at he
      exact Or.inr he
    · rw [Below.heap_alloc _ _ _ (by simp)]
      exact blk_new _ _
    · have := HB0.out b hb'
      exact ⟨Nat.lt_of_lt_of_le this hb.size, by omega, by omega, fun h => HCB.out b h hb'⟩
  case round =>
    rename World => wo
    obtain ⟨pre, st, g, cap, B, N, rfl, rfl, hord, hM⟩ := hrel
    rcases snoc_cases st with rfl | ⟨st0, ⟨ls, sl⟩, rfl⟩
    · have HM := Lib.hid hM
      have HO := Lib.hid hord
      clear hM hord
      gi_wp2
      go_end0
      have hp : pre = walkM t 1 := by have := HO.out; simpa [stWalkM, rWM] using this
      exact ⟨⟨_, rfl⟩, .inl ⟨B, N, hp ▸ HM.out.j⟩⟩
    · have hlen : (st0 ++ [((ls, sl) : List Tm × Value)]).length = st0.length + 1 := by simp
      have hown := hM.own
      rw [hlen] at hown
      rw [hlen]
      obtain ⟨hcap1, hcap2, hg1, hg2⟩ := row_cap hown
      have k0 := (hown.cellAt st0.length (by omega)).trans (wsndM_last st0 _)
      have kz := hown.frozenAt st0.length
      simp only at k0
      unfold maxLen at hcap2
      have i0' : (0 : Int) ≤ (st0.length : Int) := Int.natCast_nonneg _
      have i1' : (st0.length : Int) < ((st0.length : Int) + 1) := by omega
      have hcnt : st0.length ≤ 2097153 := by
        have h1 := hM.cnt
        have h2 := congrArg List.length hord
        have h3 := HN.out
        rw [List.length_append, walkM_length] at h2
        rw [hlen] at h1
        omega
      cases ls with
      | nil =>
        have HM := Lib.hid hM
        have HO := Lib.hid hord
        have HOWN := Lib.hid hown
        obtain ⟨a, c0, hsl⟩ : ∃ a c, sl = .slice a 0 c := by
          rcases hM.ts ([], sl) (by simp) with h1 | h1
          · exact h1.form
          · simp at h1
        subst hsl
        clear hM hord hown
        gi_wp2_with fail
        go_roundg (2 * (stWalkM st0).length + st0.length)
        case rel =>
          have h1 := row_take HOWN.out (Nat.le_succ st0.length)
          rw [wsndM_take] at h1
          refine ⟨pre, st0, g, cap, B, N, rfl, rfl, by have := HO.out; rwa [stWalkM_snoc] at this, h1, HM.out.j, fun e he => HM.out.ts e (List.mem_append_left _ he), HM.out.stays, HM.out.size, HM.out.root, HM.out.node, ?_, HM.out.bl, HM.out.nz, HSUB.out⟩
          have := HM.out.cnt
          rw [List.length_append] at this
          omega
        case measure =>
          rw [stWalkM_snoc, List.length_append, List.length_append]
          simp only [walkSM, List.length_nil, List.length_singleton]
          omega
      | cons x ls =>
        obtain ⟨b, o, c0, tp', tc', rp', rc', p', c', rfl, hlc, hc63, hbC, hbw, hcell, hnx, htail⟩ := hM.open
        have hbg : b ≠ g := by
          have h1 := hg1
          rcases hbC with h2 | h2
          · have := HC.out b (HSUB.out b h2)
            omega
          · omega
        obtain ⟨q, hq⟩ : ∃ q, (if c0 = 1 then some (⟨b, o, none⟩ : Addr) else some ⟨b, o + 9, none⟩) = q := ⟨_, rfl⟩
        have htl : LM W Ct ls (.slice q ls.length (c0 - 1)) := htail q (fun hne => by
          have h1 : 1 ≤ ls.length := by cases ls with | nil => exact absurd rfl hne | cons => simp
          rw [← hq, if_neg (by omega)])
        obtain ⟨hst, hgr⟩ := hown.stored st0.length (.slice q ls.length (c0 - 1))
        rw [wsndM_set st0 _ ls] at hst
        have hb1 : Below (W.heap.size + 1) wo (wo.setCell ⟨g, st0.length, none⟩ (.slice q ls.length (c0 - 1))) := (Below.refl _ wo).setCell (p := ⟨g, st0.length, none⟩) hg1 _
        have hcC : ∀ z, C z → z < W.heap.size := HC.out
        have hst1 : Stays C W (wo.setCell ⟨g, st0.length, none⟩ (.slice q ls.length (c0 - 1))) := hM.stays.trans ⟨hb1.size, fun z hz _ => hb1.block z (by have := hcC z hz; omega)⟩
        have hpre : pre ++ [(x, st0.length + 1)] <+: walkM t 1 := ⟨walkSM x.args (st0.length + 1 + 1) ++ (walkSM ls (st0.length + 1) ++ stWalkM st0), by rw [← hord, stWalkM_snoc]; simp only [walkSM, walkM_eq, List.cons_append, List.append_assoc, List.nil_append]⟩
        obtain ⟨fn, tmps, assign, body, hy, hR⟩ := HY.out pre (x, tmV x tp' tc' rp' rc' p' c', st0.length + 1) (fun _ => False) B N _ (HJ.out _ _ _ _ _ hM.j ⟨hb1.mono (by omega), fun z hz _ => Below.heap_setCell _ _ _ _ (by
          rcases hz with hz | hz
          · exact (hM.bl z hz).2.1
          · exact absurd hz (hM.nz z))⟩) hpre ⟨ntM_mk (hnx.stays ⟨hst1.1, fun z hz hl => hst1.2 z (HSUB.out z hz) hl⟩), fun z hz => hz⟩ (fun z hz => hz.elim)
        simp only [encNM] at hy
        rw [show ((st0.length + 1 : Nat) : Int) = (st0.length : Int) + 1 from rfl] at hy
        have hroot : (wo.setCell ⟨g, st0.length, none⟩ (.slice q ls.length (c0 - 1))).heap[W.heap.size]? = some (.cells (tmC t tp tc rp rc p c) 29 (0, 0)) := (hb1.block _ (by omega)).trans hM.root
        have HM := Lib.hid hM
        have HO := Lib.hid hord
        have HST := Lib.hid hst
        have HB1 := Lib.hid hb1
        have HST1 := Lib.hid hst1
        have HPRE := Lib.hid hpre
        have HR := Lib.hid hR
        have HTL := Lib.hid htl
        have HNX := Lib.hid hnx
        have HBC := Lib.hid hbC
        have HROOT := Lib.hid hroot
        have HQ := Lib.hid hlc
        obtain ⟨f0, f1, f2, f3, f4, f5, f6, f7, f8⟩ := hcell
        have hl1 : (1 : Int) ≤ ((ls.length : Int) + 1) := by omega
        clear hM hord hown hst hgr hb1 hst1 hpre hR htl htail hnx hbC hcC hroot
        gi_wp2_with fail
        refine HR.out.mono ?_
        rintro e W3 ⟨B', N', hgrew, hN', ⟨rfl, hJ3, hH3⟩ | ⟨rfl, hJx3, -⟩⟩
        · have hbnC : ¬ B b := fun hc => by
            obtain ⟨_, _, h3, h4⟩ := HM.out.bl b hc
            exact HBC.out.elim (fun h => h4 (HSUB.out b h)) h3
          have hgnC : ¬ B g := fun hc => (HM.out.bl g hc).2.1 rfl
          have hnC : ∀ z, C z → ¬ B z := fun z hz hb => (HM.out.bl z hb).2.2.2 hz
          have hse : (wo.setCell ⟨g, st0.length, none⟩ (.slice q ls.length (c0 - 1))).heap.size = wo.heap.size := by simp [World.setCell]
          rw [hse] at hgrew
          have hs1 := HB1.out.size
          have hb3 : W3.heap[b]? = wo.heap[b]? := (hH3.2 b (by omega) hbnC).trans (Below.heap_setCell _ _ _ _ hbg)
          have hp3 : W3.heap[Bp]? = W.heap[Bp]? := by
            have h1 := HC.out Bp hCp
            have h2 := HM.out.size
            rw [hH3.2 Bp (by omega) (hnC Bp hCp)]
            exact HST1.out.2 Bp hCp h1
          have hown3 := row_of_block HST.out (hH3.2 g (by omega) hgnC)
          have hr3 : W3.heap[W.heap.size]? = some (.cells (tmC t tp tc rp rc p c) 29 (0, 0)) := by
            rw [hH3.2 W.heap.size (by have := HM.out.lt; omega) (fun hc => (HM.out.bl _ hc).2.2.1 rfl)]
            exact HROOT.out
          have hlen3 : (st0 ++ [(ls, Value.slice q ls.length (c0 - 1))]).length = st0.length + 1 := by simp
          have hM3 : MidD W W3 C Ct t tp tc rp rc p c J B' N' (pre ++ [(x, st0.length + 1)]) (st0 ++ [(ls, .slice q ls.length (c0 - 1))]) g cap := by
            refine ⟨?_, hJ3, fun e he => ?_, HST1.out.trans ⟨hH3.1, fun z hz hl => hH3.2 z hl (hnC z hz)⟩, ?_, hr3, HM.out.node, ?_, fun z hz => ?_, fun z hz => (hN' z hz).elim (HM.out.nz z) (fun h => h), HSUB.out⟩
            · rw [hlen3]; exact hown3
            · rcases List.mem_append.1 he with he | he
              · exact HM.out.ts e (List.mem_append_left _ he)
              · simp only [List.mem_singleton] at he
                subst he
                exact Or.inl HTL.out
            · have := hH3.1
              have := HM.out.size
              omega
            · have := HM.out.cnt
              rw [hlen] at this
              rw [hlen3, List.length_append, List.length_singleton]
              omega
            · obtain ⟨h1, h2⟩ := hgrew z hz
              rcases h1 with h1 | h1
              · exact ⟨h2, (HM.out.bl z h1).2⟩
              · exact ⟨h2, by omega, by have := HM.out.lt; omega, fun h => by have := HC.out z h; have := HM.out.size; omega⟩
          have g0 := (World.cell?_of_block (a := ⟨b, o, none⟩) hb3).trans f0
          have g1 := (World.cell?_of_block (a := ⟨b, o + 1, none⟩) hb3).trans f1
          have g2 := (World.cell?_of_block (a := ⟨b, o + 2, none⟩) hb3).trans f2
          have g3 := (World.cell?_of_block (a := ⟨b, o + 3, none⟩) hb3).trans f3
          have g4 := (World.cell?_of_block (a := ⟨b, o + 4, none⟩) hb3).trans f4
          have g5 := (World.cell?_of_block (a := ⟨b, o + 5, none⟩) hb3).trans f5
          have g6 := (World.cell?_of_block (a := ⟨b, o + 6, none⟩) hb3).trans f6
          have g7 := (World.cell?_of_block (a := ⟨b, o + 7, none⟩) hb3).trans f7
          have g8 := (World.cell?_of_block (a := ⟨b, o + 8, none⟩) hb3).trans f8
          have kp3 := cell_of_blk (hp3.trans HBP.out) 0
          simp only [List.getElem?_toArray, List.getElem?_cons_zero] at kp3
          have HM3 := Lib.hid hM3
          have HOWN3 := Lib.hid hown3
          have hsz3 := hM3.lt
          clear hJ3 hH3 hown3 hM3 hy HR k0 kz hb3 hp3 hr3 hbnC hgnC hnC hse hgrew hN' f0 f1 f2 f3 f4 f5 f6 f7 f8 HB1 HST1 HST
          gi_wp2_with fail
          refine wpIn_wide.2 ?_
          go_region_law (first
            | (refine step_app1 (w0 := w1) (base := W.heap.size + 1) (v := .slice (some ⟨g, 0, none⟩) (st0.length + 1) cap) (n := st0.length + 1) (xs := (st0 ++ [(ls, Value.slice q ls.length (c0 - 1))]).map (·.2)) (cs := [.slice p' x.args.length c']) rfl (.tmp 40) (.tmp 46) rfl Tryz.underlying173 hi hz0 hz1 hz2 rfl (by decide) rfl (row_below HOWN3.out ((Below.refl W3.heap.size W3).drew.trans hb1)) _ rfl (by simp) rfl (fun u hu => by simp at hu; subst hu; rfl) (by unfold maxLen; omega) (by omega) (by have := hb1.size; simp at this; omega) ?_; intro w' g2 cap2 hA)
            | (go_simp; go_at_call 121; refine (argsM_any _ _ _ _ _ _ _ _).mono ?_; rintro e w1 ⟨rfl, hb1⟩))
          all_goals
            have HA := Lib.hid hA
            have HB := Lib.hid hb1
            clear hA hb1
            gi_wp2_with fail
            go_roundg (2 * (stWalkM ((st0 ++ [(ls, Value.slice q ls.length (c0 - 1))]) ++ [(x.args, .slice p' x.args.length c')])).length + (st0.length + 2))
            case rel =>
              have hb3 : Below W3.heap.size W3 w1 := (Below.refl W3.heap.size W3).drew.trans HB.out
              have hlen3 : (st0 ++ [(ls, Value.slice q ls.length (c0 - 1))]).length = st0.length + 1 := by simp
              have hg3 := (row_cap HOWN3.out).2.2
              have hs3 := hb3.size
              have hbw : Below (W.heap.size + 1) W3 w' := (hb3.mono (by omega)).trans HA.out.below
              refine ⟨pre ++ [(x, st0.length + 1)], (st0 ++ [(ls, .slice q ls.length (c0 - 1))]) ++ [(x.args, .slice p' x.args.length c')], g2, cap2, B', N', by rw [List.length_append, hlen3]; rfl, by rw [List.length_append, hlen3]; rfl, ?_, ?_⟩
              · rw [stWalkM_snoc, hlen3, stWalkM_snoc, ← HO.out, stWalkM_snoc]
                simp only [walkSM, walkM_eq, List.cons_append, List.append_assoc, List.nil_append]
              · have hown1 : ∀ z, z ≠ g → (Value.slice (some ⟨g, 0, none⟩) (st0.length + 1) cap).ownBlock ≠ some z := fun z hz e => hz (by simp only [Value.ownBlock, Option.some.injEq] at e; exact e.symm)
                have hk1 : ∀ z, z ≠ g → z < w1.heap.size → w'.heap[z]? = w1.heap[z]? ∧ g2 ≠ z := fun z hz hl => HA.out.kept z hl (hown1 z hz)
                have hs3 := hb3.size
                have hk : ∀ z, z ≠ g → z < W3.heap.size → w'.heap[z]? = W3.heap[z]? := fun z hz hl => (hk1 z hz (Nat.lt_of_lt_of_le hl hs3)).1.trans (hb3.block z hl)
                refine ⟨?_, HJ.out _ _ _ _ _ HM3.out.j ⟨hbw.mono (by omega), fun z hz hl => hk z (hz.elim (fun h => (HM3.out.bl z h).2.1) (fun h => absurd h (HM3.out.nz z))) hl⟩, fun e he => ?_, HM3.out.stays.trans ⟨hbw.size, fun z hz _ => hbw.block z (by have := HC.out z hz; omega)⟩, by have := hbw.size; have := HM3.out.size; omega, (hbw.block _ (by omega)).trans HM3.out.root, HM3.out.node, ?_, fun z hz => ?_, HM3.out.nz, HSUB.out⟩
                · rw [List.map_append, List.length_append, hlen3]
                  exact HA.out.own
                · rcases List.mem_append.1 he with he | he
                  · exact HM3.out.ts e he
                  · simp only [List.mem_singleton] at he
                    subst he
                    exact Or.inl (TM'.args HNX.out)
                · have := HM.out.cnt
                  rw [hlen] at this
                  simp only [List.length_append, List.length_cons, List.length_nil]
                  omega
                · obtain ⟨h1, h2, h3, h4⟩ := HM3.out.bl z hz
                  have hs4 := HA.out.size
                  exact ⟨by omega, fun e => (hk1 z h2 (by omega)).2 e.symm, h3, h4⟩
            case measure =>
              have h1 := HO.out
              simp only [stWalkM_snoc, walkSM, walkM_eq, List.length_append, List.length_cons, List.length_nil, Nat.zero_add]
              omega
        · gi_wp2_with fail
          refine bodyPost_ret (results_none rfl _ _ _) rfl ?_
          exact ⟨⟨_, rfl⟩, .inr ⟨pre ++ [(x, st0.length + 1)], B', N', HPRE.out, hJx3⟩⟩
theorem nodesD_seq {w wl : World} {C Ct : Nat → Prop} {t : Tm} {tp : Option Addr} {tc : Nat} {rp : Option Addr} {rc : Nat} {p : Option Addr} {c : Nat} {Bt Bp : Nat} (h : IterM w t tp tc rp rc p c Bt Bp) (hT : TM' w Ct t tp tc rp rc p c) (hn : t.nodes ≤ 2097153) (hb : Below w.heap.size w wl) (hC : ∀ b, C b → b < w.heap.size) (hp : C Bp) (hCt : ∀ z, Ct z → C z) :
    SeqD Fence.wide 1 Tryz.prog 161 #[.pointer (some ⟨Bt, 0, none⟩), .pointer (some ⟨Bp, 0, none⟩)] encNM keyNM (GoodND Ct) C (walkM t 1) wl := by
  intro l J Jx B0 W hbW hCB hB0 hJ _ hY h0
  have hbt := (Array.getElem?_eq_some_iff.1 h.bt).1
  have hbp := (Array.getElem?_eq_some_iff.1 h.bp).1
  have hbb : Below w.heap.size w W := hb.trans (hbW.mono hb.size)
  exact nodesD_it l Bt Bp t tp tc rp rc p c C Ct B0 W J Jx ((hbb.block _ hbt).trans h.bt) ((hbb.block _ hbp).trans h.bp) (hT.stays (.of_below hbb)) hn (fun b hc => Nat.lt_of_lt_of_le (hC b hc) hbb.size) hCB hB0 hp hCt hJ hY h0
theorem goodND_loop {C : Nat → Prop} {x : Tm × Value × Nat} {Y : Nat → Prop} {A A' : World} {l : Nat} (h : GoodND C x Y A) (hA : Holds (fun b => b = l) A A') (hC : ¬ C l) : GoodND C x Y A' :=
  ⟨nstaysM h.1 ⟨hA.1, fun b hb hlt => hA.2 b hlt (fun e => hC (e ▸ hb))⟩, h.2⟩
end Go.Proofs.YteoeefmdfalnjaaGreatDoor
namespace Go.Proofs.YteoeefmdfalnjaaGreatDoor
open Go Go.RowKit Go.Shelf
attribute [local go_sem] Oper.semAt_some

theorem YieldAt.any' {a b l : Nat} {P : Program} {args : Array Value} {W : World} {R : Ending → World → Prop} (h : YieldAt Fence.wide a P l args W R) (l' : Nat) : YieldAt (Fence.wide.inRound l') b P l args W R := by
  obtain ⟨fn, tmps, assign, body, h1, h2⟩ := h
  exact ⟨fn, tmps, assign, body, h1, h2.1, fun c cs _ => h2.2 c cs (room_wide _)⟩

set_option maxRecDepth 100000 in
set_option maxHeartbeats 1000000 in
theorem nextI_any (t : Tm) (tp : Option Addr) (tc : Nat) (rp : Option Addr) (rc : Nat) (p : Option Addr) (c : Nat) (n : Int) (w : World) :
    Calls Tryz.prog 58 #[tmV t tp tc rp rc p c, .int .i64 n] w fun e w' => e = .returned (.int .i64 (nextL t.kind n)) ∧ Below w.heap.size w w' := by
  have hn1 : t.kind = 10 → nextL t.kind n = wrap64 (n + 1) := fun h => by unfold nextL; rw [if_pos h]
  have hn2 : t.kind = 11 → nextL t.kind n = wrap64 (n - 1) := fun h => by unfold nextL; rw [if_neg (by omega), if_pos h]
  have hn3 : ¬ t.kind = 10 → ¬ t.kind = 11 → nextL t.kind n = n := fun h h2 => by unfold nextL; rw [if_neg h, if_neg h2]
  have HB0 := Lib.hid (al_below w (.cells (tmC t tp tc rp rc p c) 29))
  generalize nextL t.kind n = r at hn1 hn2 hn3 ⊢
  obtain ⟨g0, _, _, _, _, _, _, _, _⟩ := Bx9.new w t tp tc rp rc p c 29
  by_cases h1 : t.kind = 10
  · obtain rfl := hn1 h1
    have t1 : (t.kind == 10) = true := by simp [h1]
    clear hn1 hn2 hn3 h1
    go_enter Tryz.func58, Tryz.ntmps58
    go_wp2_with fail
    go_ret
    exact ⟨rfl, HB0.out⟩
  · by_cases h2 : t.kind = 11
    · obtain rfl := hn2 h2
      have t1 : (t.kind == 10) = false := by simp [h1]
      have t2 : (t.kind == 11) = true := by simp [h2]
      clear hn1 hn2 hn3 h1 h2
      go_enter Tryz.func58, Tryz.ntmps58
      go_wp2_with fail
      go_ret
      exact ⟨rfl, HB0.out⟩
    · obtain rfl := hn3 h1 h2
      have t1 : (t.kind == 10) = false := by simp [h1]
      have t2 : (t.kind == 11) = false := by simp [h2]
      clear hn1 hn2 hn3 h1 h2
      go_enter Tryz.func58, Tryz.ntmps58
      go_wp2_with fail
      go_ret
      exact ⟨rfl, HB0.out⟩

theorem infoI64 : (Tryz.prog.info? 3).map (fun i => (i.zero, i.size, i.bytes)) = some (some (.int .i64 0), 1, 8) := by kernel_rfl
abbrev lvV (st : List Int) : List Value := st.map fun z => .int .i64 z
abbrev encL (x : (Tm × Int) × Value) : Array Value := #[x.2, .int .i64 x.1.2]
abbrev keyL (x : (Tm × Int) × Value) : Tm × Int := x.1
def GoodL (C : Nat → Prop) (x : (Tm × Int) × Value) (Y : Nat → Prop) (W : World) : Prop := NM W C x.1.1 x.2 ∧ ∀ z, ¬ Y z
structure LvI (m : Nat) (Cx : Nat → Prop) (W : World) (l bc : Nat) (n : Int) (J : List (Tm × Int) → (Nat → Prop) → (Nat → Prop) → World → Prop) (pre : List (Tm × Nat)) (Bi Ni : Nat → Prop) (Wx : World) (Bo No : Nat → Prop) (g cap : Nat) : Prop where
  split : ∀ z, Bi z ↔ (z = bc ∨ z = g) ∨ Bo z
  apart : ¬ Bo bc ∧ ¬ Bo g ∧ g ≠ bc ∧ W.heap.size < bc ∧ W.heap.size < g
  lt : ∀ z, Bi z → z < Wx.heap.size ∧ z ≠ W.heap.size
  ni : ∀ z, ¬ Ni z
  no : ∀ z, ¬ No z
  cell : Wx.heap[bc]? = some (.cells #[.slice (some ⟨g, 0, none⟩) (stkL [n] pre).length cap] 117 (0, 0))
  own : Wx.ownsRow (W.heap.size + 1) 3 1 (.slice (some ⟨g, 0, none⟩) (stkL [n] pre).length cap) (stkL [n] pre).length (lvV (stkL [n] pre))
  j : J (lvs pre [n]) Bo No Wx
  yb : Wx.heap[W.heap.size]? = some (.cells #[.func (.yield l) #[] #[]] 32 (0, 0))
  size : m ≤ Wx.heap.size
  cb : ¬ Cx bc ∧ ¬ Cx g
theorem LvI.keep {m : Nat} {Cx : Nat → Prop} {W A A' : World} {l bc : Nat} {n : Int} {J : List (Tm × Int) → (Nat → Prop) → (Nat → Prop) → World → Prop} {pre : List (Tm × Nat)} {Bi Ni Bo No : Nat → Prop} {g cap : Nat} (h : LvI m Cx W l bc n J pre Bi Ni A Bo No g cap) (hm : W.heap.size < m)
    (hJ : ∀ pre B N A A', J pre B N A → Keep W.heap.size (fun z => B z ∨ N z) A A' → J pre B N A') (hk : Keep m (fun z => Bi z ∨ Ni z) A A') : LvI m Cx W l bc n J pre Bi Ni A' Bo No g cap := by
  have hs := hk.1.size
  have hbc : Bi bc := (h.split bc).2 (Or.inl (Or.inl rfl))
  have hg : Bi g := (h.split g).2 (Or.inl (Or.inr rfl))
  refine ⟨h.split, h.apart, fun z hz => ⟨Nat.lt_of_lt_of_le (h.lt z hz).1 hs, (h.lt z hz).2⟩, h.ni, h.no, (hk.2 bc (Or.inl hbc) (h.lt bc hbc).1).trans h.cell, row_of_block h.own (hk.2 g (Or.inl hg) (h.lt g hg).1), hJ _ _ _ _ _ h.j (hk.mono (Nat.le_of_lt hm) (fun b hb => hb.elim (fun h2 => Or.inl ((h.split b).2 (Or.inr h2))) (fun h2 => absurd h2 (h.no b)))), (hk.1.block _ hm).trans h.yb, Nat.le_trans h.size hs, h.cb⟩
theorem LvI.stop {m : Nat} {Cx : Nat → Prop} {W Wx W3 : World} {l bc : Nat} {n : Int} {J Jx : List (Tm × Int) → (Nat → Prop) → (Nat → Prop) → World → Prop} {pre : List (Tm × Nat)} {B N Y Bo No Bo' No' : Nat → Prop} {g cap : Nat} {all q : List (Tm × Int)} (h : LvI m Cx W l bc n J pre B N Wx Bo No g cap)
    (hgr : Grew Bo Bo' Wx.heap.size W3.heap.size) (hh : Holds Bo Wx W3) (hno : ∀ z, No' z → No z ∨ False) (hq : q <+: all) (hj : Jx q Bo' No' W3) :
    ∃ B' N' : Nat → Prop, Grew B B' Wx.heap.size W3.heap.size ∧ (∀ z, N' z → N z ∨ Y z) ∧ Holds B Wx W3 ∧ (Code.ret = Code.ret ∧ ∃ (Bo No : Nat → Prop) (q : List (Tm × Int)), q <+: all ∧ (∀ z, Bo z → B' z) ∧ (∀ z, ¬ No z) ∧ Jx q Bo No W3) := by
  have hbc := h.lt bc ((h.split bc).2 (Or.inl (Or.inl rfl)))
  have hg := h.lt g ((h.split g).2 (Or.inl (Or.inr rfl)))
  have hs := hh.1
  refine ⟨fun z => (z = bc ∨ z = g) ∨ Bo' z, fun _ => False, fun z hz => ?_, fun z hz => hz.elim, ⟨hs, fun z hl hb => hh.2 z hl (fun e => hb ((h.split z).2 (Or.inr e)))⟩, rfl, Bo', No', q, hq, fun z hz => Or.inr hz, fun z hz => (hno z hz).elim (h.no z) id, hj⟩
  rcases hz with hz | hz
  · exact ⟨Or.inl ((h.split z).2 (Or.inl hz)), by rcases hz with rfl | rfl <;> omega⟩
  · obtain ⟨h1, h2⟩ := hgr z hz
    exact ⟨h1.imp (fun e => (h.split z).2 (Or.inr e)) id, h2⟩
theorem LvI.step {m : Nat} {Cx : Nat → Prop} {W Wx W3 w1 w' : World} {l bc : Nat} {n : Int} {J : List (Tm × Int) → (Nat → Prop) → (Nat → Prop) → World → Prop} {pre : List (Tm × Nat)} {B N Y Bo No Bo' No' : Nat → Prop} {g cap g2 cap2 : Nat} {x : Tm} {d0 : Nat} {st : List Int} {lv : Int} (h : LvI m Cx W l bc n J pre B N Wx Bo No g cap)
    (hm : W.heap.size < m) (hCx : ∀ z, Cx z → z < m) (hst : st = stkL [n] pre) (hd : d0 + 1 ≤ st.length) (hlv : lv = st.getD d0 0)
    (hJ : ∀ pre B N A A', J pre B N A → Keep W.heap.size (fun z => B z ∨ N z) A A' → J pre B N A')
    (hgr : Grew Bo Bo' Wx.heap.size W3.heap.size) (hh : Holds Bo Wx W3) (hno : ∀ z, No' z → No z ∨ False) (hj : J (lvs pre [n] ++ [(x, lv)]) Bo' No' W3) (hb1 : Below W3.heap.size W3 w1)
    (hA : Appd w1 w' (W.heap.size + 1) 3 1 (.slice (some ⟨g, 0, none⟩) (d0 + 1) cap) (d0 + 1) ((lvV st).take ((d0 + 1) * 1)) [.int .i64 (nextL x.kind lv)] g2 cap2) :
    ∃ B' N' : Nat → Prop, Grew B B' Wx.heap.size (w'.setCell ⟨bc, 0, none⟩ (.slice (some ⟨g2, 0, none⟩) (d0 + 2) cap2)).heap.size ∧ (∀ z, N' z → N z ∨ Y z) ∧ Holds B Wx (w'.setCell ⟨bc, 0, none⟩ (.slice (some ⟨g2, 0, none⟩) (d0 + 2) cap2)) ∧
      ∃ (Bo No : Nat → Prop) (g cap : Nat), LvI m Cx W l bc n J (pre ++ [(x, d0 + 1)]) B' N' (w'.setCell ⟨bc, 0, none⟩ (.slice (some ⟨g2, 0, none⟩) (d0 + 2) cap2)) Bo No g cap := by
  have hbc := h.lt bc ((h.split bc).2 (Or.inl (Or.inl rfl)))
  have hg := h.lt g ((h.split g).2 (Or.inl (Or.inr rfl)))
  obtain ⟨ap1, ap2, ap3, ap4, ap5⟩ := h.apart
  have s1 := hh.1
  have s2 := hb1.size
  have s3 := hA.size
  have s0 := h.size
  have hcap := row_cap hA.own
  have e4 : (w'.setCell ⟨bc, 0, none⟩ (.slice (some ⟨g2, 0, none⟩) (d0 + 2) cap2)).heap.size = w'.heap.size := by simp [World.setCell]
  have hov : ∀ z, z ≠ g → (Value.slice (some ⟨g, 0, none⟩) (d0 + 1) cap).ownBlock ≠ some z := fun z hz e => hz (by simp only [Value.ownBlock, Option.some.injEq] at e; exact e.symm)
  have hk1 : ∀ z, z ≠ g → z < w1.heap.size → w'.heap[z]? = w1.heap[z]? ∧ g2 ≠ z := fun z hz hl => hA.kept z hl (hov z hz)
  have hg2 : g2 = g ∨ w1.heap.size ≤ g2 := by
    rcases Nat.lt_or_ge g2 w1.heap.size with hl | hl
    · by_cases e : g2 = g
      · exact Or.inl e
      · exact absurd rfl (hk1 g2 e hl).2
    · exact Or.inr hl
  have ho : ∀ z, z ≠ bc → (w'.setCell ⟨bc, 0, none⟩ (.slice (some ⟨g2, 0, none⟩) (d0 + 2) cap2)).heap[z]? = w'.heap[z]? := fun z hz => Below.heap_setCell _ _ _ _ hz
  have h3 : ∀ z, z ≠ g → z ≠ bc → z < W3.heap.size → (w'.setCell ⟨bc, 0, none⟩ (.slice (some ⟨g2, 0, none⟩) (d0 + 2) cap2)).heap[z]? = W3.heap[z]? := fun z h1 h2 hl => (ho z h2).trans ((hk1 z h1 (by omega)).1.trans (hb1.block z hl))
  have hold : Holds B Wx (w'.setCell ⟨bc, 0, none⟩ (.slice (some ⟨g2, 0, none⟩) (d0 + 2) cap2)) := ⟨by omega, fun z hl hb => (h3 z (fun e => hb ((h.split z).2 (Or.inl (Or.inr e)))) (fun e => hb ((h.split z).2 (Or.inl (Or.inl e)))) (by omega)).trans (hh.2 z hl (fun e => hb ((h.split z).2 (Or.inr e))))⟩
  have hbo : ∀ z, Bo' z → z ≠ bc ∧ z ≠ g ∧ z ≠ g2 := fun z hz => by
    obtain ⟨h1, h2⟩ := hgr z hz
    have e1 : z ≠ bc := by rintro rfl; exact h1.elim ap1 (fun h => by omega)
    have e2 : z ≠ g := by rintro rfl; exact h1.elim ap2 (fun h => by omega)
    refine ⟨e1, e2, ?_⟩
    rintro rfl
    exact hg2.elim e2 (fun h => by omega)
  have hg2bc : g2 ≠ bc := (hk1 bc (fun e => ap3 e.symm) (by omega)).2
  have hgrew : Grew B (fun z => (z = bc ∨ z = g2) ∨ Bo' z) Wx.heap.size (w'.setCell ⟨bc, 0, none⟩ (.slice (some ⟨g2, 0, none⟩) (d0 + 2) cap2)).heap.size := by
    rintro z ((rfl | rfl) | hz)
    · exact ⟨Or.inl ((h.split _).2 (Or.inl (Or.inl rfl))), by omega⟩
    · refine ⟨?_, by omega⟩
      rcases hg2 with e | e
      · exact Or.inl ((h.split _).2 (Or.inl (Or.inr e)))
      · exact Or.inr (by omega)
    · obtain ⟨h1, h2⟩ := hgr z hz
      exact ⟨h1.imp (fun e => (h.split z).2 (Or.inr e)) id, by omega⟩
  have hlen : (stkL [n] (pre ++ [(x, d0 + 1)])).length = d0 + 2 := by
    rw [stkL_snoc, ← hst, pushL_len hd]
  have hpush : lvV (stkL [n] (pre ++ [(x, d0 + 1)])) = (lvV st).take ((d0 + 1) * 1) ++ [.int .i64 (nextL x.kind lv)] := by
    rw [stkL_snoc, ← hst, hlv]
    simp [pushL, lvV]
  refine ⟨_, fun _ => False, hgrew, fun z hz => hz.elim, hold, Bo', No', g2, cap2, fun _ => Iff.rfl, ⟨fun e => (hbo _ e).1 rfl, fun e => (hbo _ e).2.2 rfl, hg2bc, ap4, by omega⟩, fun z hz => ⟨(hgrew z hz).2, ?_⟩, fun z hz => hz, fun z hz => (hno z hz).elim (h.no z) id, ?_, ?_, ?_, ?_, by omega, h.cb.1, fun e => ?_⟩
  · rintro rfl
    rcases hz with (e | e) | e
    · omega
    · omega
    · rcases (hgr _ e).1 with h1 | h1
      · exact (h.lt _ ((h.split _).2 (Or.inr h1))).2 rfl
      · omega
  · rw [hlen, Go.Joins.block_setCell ((hk1 bc (fun e => ap3 e.symm) (by omega)).1.trans ((hb1.block _ (by omega)).trans ((hh.2 bc hbc.1 ap1).trans h.cell))) _]
    rfl
  · rw [hlen, hpush]
    exact row_of_block hA.own (ho g2 hg2bc)
  · rw [lvs_snoc, Nat.add_sub_cancel, ← hst, ← hlv]
    refine hJ _ _ _ _ _ hj ⟨((hb1.mono (by omega)).trans (hA.below.mono (by omega))).setCell (p := ⟨bc, 0, none⟩) (Nat.le_of_lt ap4) _, fun z hz hl => ?_⟩
    rcases hz with hz | hz
    · exact h3 z (hbo z hz).2.1 (hbo z hz).1 hl
    · exact absurd hz (fun e => (hno z e).elim (h.no z) id)
  · exact (hold.2 W.heap.size (by omega) (fun e => (h.lt _ e).2 rfl)).trans h.yb
  · rcases hg2 with e2 | e2
    · rw [e2] at e; exact h.cb.2 e
    · have := hCx _ e; omega
end Go.Proofs.YteoeefmdfalnjaaGreatDoor
namespace Go.Proofs.YteoeefmdfalnjaaGreatDoor
open Go Go.RowKit
def noDefer (ops : Array Oper) : Bool := ops.all fun o => match o.op with | .defer _ => false | _ => true
theorem noDefer_at {ops : Array Oper} (h : noDefer ops = true) {i : Nat} {o : Oper} (ho : ops[i]? = some o) : ∀ c, o.op ≠ .defer c := by
  intro c hc
  obtain ⟨hi, rfl⟩ := Array.getElem?_eq_some_iff.1 ho
  unfold noDefer at h
  have := Array.all_eq_true.1 h i hi
  rw [hc] at this
  cases this
theorem RoundIn.any {a b l l' : Nat} {P : Program} {f : FuncId} {tmps : Array Value} {assign body : Code} {w : World} {R : Ending → World → Prop} (h : RoundIn Fence.wide a P l f tmps assign body w R) : RoundIn (Fence.wide.inRound l') b P l f tmps assign body w R :=
  ⟨h.1, fun c cs _ => h.2 c cs (room_wide _)⟩
theorem wpOpIn_round {l n : Nat} {P : Program} {ops : Array Oper} {Q : Exit → Act → World → Prop} (hnd : noDefer ops = true) {i : Nat} {K : Act → World → Prop} {a : Act} {w : World} (h : wpOpIn Fence.wide n P ops Q i K a w) : wpOpIn (Fence.wide.inRound l) n P ops Q i K a w := by
  unfold wpOpIn at *
  cases ho : ops[i]? with
  | none => simpa [ho] using h
  | some o =>
    simp only [ho] at h ⊢
    have hd := noDefer_at hnd ho
    by_cases hw : Region.wanted o (yielded ops a.tmps) = true
    · rw [if_pos hw] at h ⊢
      unfold Oper.wpIn at *
      refine ⟨fun _ _ => trivial, ?_⟩
      have h2 := h.2
      rw [Oper.semAt_eq _ _ _ hd] at h2 ⊢
      generalize (execOp a.eval o).run P w = r at *
      cases r with
      | ok x w' =>
        cases x <;> simp only [Oper.uponIn] at h2 ⊢
        case value => exact h2
        case skip => exact h2
        case defer => exact h2
        case enter => exact ⟨fun h => by simp [Fence.wide] at h, CallsIn.inRound l h2.2⟩
        case row => exact ⟨fun h => by simp [Fence.wide] at h, h2.2⟩
        case round => exact ⟨fun h => by simp [Fence.wide] at h, RoundIn.any h2.2⟩
      | halt x w' => cases x <;> exact h2
    · rw [if_neg hw] at h ⊢
      exact ⟨fun _ _ => trivial, h.2⟩
theorem wpAnyIn_round {l n : Nat} {P : Program} {md : Region.Mode} {ops : Array Oper} {Q : Exit → Act → World → Prop} (hnd : noDefer ops = true) : ∀ (fuel : Nat) (listed : Array Bool) (a : Act) (w : World), wpAnyIn Fence.wide n P md ops Q fuel listed a w → wpAnyIn (Fence.wide.inRound l) n P md ops Q fuel listed a w
  | 0, _, _, _, h => h
  | fuel + 1, _, _, _, h => ⟨h.1, fun i hi => wpOpIn_mono (fun a w h => wpAnyIn_round hnd fuel _ a w h) (wpOpIn_round hnd (h.2 i hi))⟩
theorem wpIn_region_round {l n id : Nat} {P : Program} {ops : Array Oper} {Q : Exit → Act → World → Prop} {a : Act} {w : World} (hm : P.follows .mixedOrders = true) (hnd : noDefer ops = true)
    (h : wpAnyIn Fence.wide n P .any ops Q ops.size (Array.replicate ops.size false) a w.drew) : (Code.region id ops true).wpIn (Fence.wide.inRound l) n P Q a w :=
  wpIn_region_any hm (wpAnyIn_round hnd _ _ _ _ h)

section
variable {P : Program} {w0 : World} {base : Nat} {t e : TypeId} {i : TypeInfo} {z : Value} {size bytes : Nat} {v : Value} {n : Nat} {xs cs : List Value}
theorem stepIn_app1 {F : Fence} {m : Nat} {ops : Array Oper} {o : Oper} {a : Act} {K : Act → World → Prop} {Q : Exit → Act → World → Prop} {E : Prop} (hgd : o.guard = none) (s x : Operand)
    (ho : o.op = .call { callee := .builtin .append, args := #[s, x], argTypes := #[t, t] }) (ht : P.underlying t = some (.slice e)) (hi : P.info? e = some i) (hz : i.zero = some z) (hsize : i.size = size) (hby : i.bytes = bytes) (hzs : z.cells.size = size) (hsz : 0 < size)
    (hs : a.eval s = v) (hown : w0.ownsRow base e size v n xs) (bk : Nat) (hx : a.eval x = .slice (some ⟨bk, 0, none⟩) 1 1) (hbk : bk = w0.heap.size) (hl : cs.length = size) (h1 : ∀ u ∈ cs, u.oneCell' = true) (h63 : n + 1 ≤ maxLen) (hbytes : (n + 1) * bytes ≤ 140737488355328) (hbase : base ≤ w0.heap.size)
    (h : ∀ w' g cap, Appd w0 w' base e size v n xs cs g cap → K (a.put o.dst (.slice (some ⟨g, 0, none⟩) (n + 1) cap)) w') :
    if Region.wanted o (yielded ops a.tmps) = true then Oper.wpIn F m P o a (w0.alloc (.cells cs.toArray e)) K Q else E := by
  subst hbk
  have hw : Region.wanted o (yielded ops a.tmps) = true := by simp [Region.wanted, hgd]
  rw [if_pos hw]
  obtain ⟨w', g, cap, hrun, hA⟩ := run_app1 (P := P) o.type ht hi hz hsize hby hzs hsz hown hl h1 h63 hbytes hbase
  unfold Oper.wpIn
  refine ⟨by simp [Oper.about, ho, resolve, Target.leads, Sem.run_pure], ?_⟩
  rw [Oper.semAt_plain F _ _ (by rw [ho]; intro c hc'; cases hc')]
  simp [execOp, ho, resolve, invoke, builtin, hs, hx, hrun, Result.andThen, Oper.uponIn]
  exact h w' g cap hA
end
end Go.Proofs.YteoeefmdfalnjaaGreatDoor
namespace Go.Proofs.YteoeefmdfalnjaaGreatDoor
open Go Go.RowKit Go.Shelf
attribute [local go_sem] Oper.semAt_some

set_option maxRecDepth 100000 in
set_option maxHeartbeats 4000000 in
theorem levels_it (l Bn Be : Nat) (t : Tm) (tp : Option Addr) (tc : Nat) (rp : Option Addr) (rc : Nat) (p : Option Addr) (c : Nat) (n : Int) (C B0 : Nat → Prop) (W : World) (J Jx : List (Tm × Int) → (Nat → Prop) → (Nat → Prop) → World → Prop)
    (hBn : W.heap[Bn]? = some (.cells #[.int .i64 n] 3 (0, 0))) (hBe : W.heap[Be]? = some (.cells (tmC t tp tc rp rc p c) 29 (0, 0))) (hT : TM' W C t tp tc rp rc p c) (hn : t.nodes ≤ 2097153)
    (hC : ∀ b, C b → b < W.heap.size) (hCB : ∀ b, C b → ¬ B0 b) (hB0 : ∀ b, B0 b → b < W.heap.size)
    (hJ : ∀ pre B N A A', J pre B N A → Keep W.heap.size (fun z => B z ∨ N z) A A' → J pre B N A') (hJx : ∀ pre B N A A', Jx pre B N A → Keep W.heap.size (fun z => B z ∨ N z) A A' → Jx pre B N A')
    (hY : ∀ (pre : List (Tm × Int)) (x : (Tm × Int) × Value) (Y B N : Nat → Prop) (W1 : World), J pre B N W1 → pre ++ [keyL x] <+: walkL t n → GoodL C x Y W1 → (∀ z : Nat, Y z → ¬ B z) → YieldAt Fence.wide 1 Tryz.prog l (encL x) W1 fun e W' =>
      ∃ B' N', Grew B B' W1.heap.size W'.heap.size ∧ (∀ z, N' z → N z ∨ Y z) ∧ ((e = .returned (.bool true) ∧ J (pre ++ [keyL x]) B' N' W' ∧ Holds B W1 W') ∨ (e = .returned (.bool false) ∧ Jx (pre ++ [keyL x]) B' N' W' ∧ Holds B W1 W')))
    (h0 : J [] B0 (fun _ => False) W) :
    CallsIn Fence.wide 2 Tryz.prog 113 #[.func (.yield l) #[] #[], .pointer (some ⟨Bn, 0, none⟩), .pointer (some ⟨Be, 0, none⟩)] W fun e W' =>
      (∃ v, e = .returned v) ∧ ((∃ B' N', J (walkL t n) B' N' W') ∨ ∃ pre B' N', pre <+: walkL t n ∧ Jx pre B' N' W') := by
  have HT := Lib.hid hT
  have HY := Lib.hid hY
  have HJ := Lib.hid hJ
  have HJX := Lib.hid hJx
  have HJ0 := Lib.hid h0
  have HB0 := Lib.hid hB0
  have HC := Lib.hid hC
  have HCB := Lib.hid hCB
  have HN := Lib.hid hn
  have q0 := cell_of_blk hBn 0
  simp only [List.getElem?_toArray, List.getElem?_cons_zero] at q0
  have HBE := Lib.hid hBe
  clear hT hY hJ hJx h0 hB0 hC hCB hn hBn hBe
  refine callsIn_of_wp_marks Tryz.func113 rfl trivial ?_ rfl
  simp only [Tryz.ntmps113, List.size_toArray, List.length_cons, List.length_nil, Nat.reduceAdd, Nat.reduceSub, Array.replicate_succ, Array.replicate_zero, List.push_toArray, List.append_toArray, List.nil_append, List.cons_append]
  refine wpIn_wide.2 ?_
  have hbn := World.block_lt_of_cell? W _ q0
  have hbe := (Array.getElem?_eq_some_iff.1 HBE.out).1
  have hb1 : Below W.heap.size W (W.alloc (.cells #[.func (.yield l) #[] #[]] 32)) := al_below _ _
  have q1 := (hb1.cell hbn).trans q0
  have hb3 : Below W.heap.size W (((W.alloc (.cells #[.func (.yield l) #[] #[]] 32)).alloc (.cells #[.int .i64 n] 3)).alloc (.cells #[.slice (some ⟨W.heap.size + 1, 0, none⟩) 1 1] 117)) := (hb1.alloc (by simp) _).alloc (by simp; omega) _
  obtain ⟨e0, e1, e2, e3, e4, e5, e6, e7, e8⟩ := Bx9.of ((hb3.block _ hbe).trans HBE.out)
  have HB3 := Lib.hid hb3
  clear hb1 hb3 q0
  go_wp2_with fail
  obtain ⟨w0, hw0, hs0, hb0, k0, k1, k2⟩ := box_new3 W #[.func (.yield l) #[] #[]] #[.int .i64 n] #[.slice (some ⟨W.heap.size + 1, 0, none⟩) 1 1] 32 3 117
  rw [hw0]
  refine (tnM_any (HT.out.stays (.of_below hb0))).mono ?_
  rintro e wc ⟨Bt, Bp, rfl, hit, hbc, hBt, hBp⟩
  have sc := hbc.size
  have hbW : Below W.heap.size W wc := hb0.trans (hbc.mono hb0.size)
  have k0c := (hbc.block _ (by omega)).trans k0
  have k1c := (hbc.block _ (by omega)).trans k1
  have k2c := (hbc.block _ (by omega)).trans k2
  have HIT := Lib.hid hit
  have HBW := Lib.hid hbW
  have HK := Lib.hid (And.intro k0c (And.intro k1c k2c))
  clear hw0 hit hbc k0 k1 k2 k0c k1c k2c hb0 hbW q1 e0 e1 e2 e3 e4 e5 e6 e7 e8 hbn hbe HB3 HBE
  go_wp2_with fail
  refine (wpIn_wide (n := 2)).1 ?_
  refine rangeD_law (F := Fence.wide) (n := 2) rfl (by omega) (gf := 161) (lb := #[.pointer (some ⟨Bt, 0, none⟩), .pointer (some ⟨Bp, 0, none⟩)]) rfl trivial (enters_of Tryz.func161 (by kernel_rfl) rfl)
    (B0 := fun z => (z = W.heap.size + 2 ∨ z = W.heap.size + 1) ∨ B0 z)
    (nodesD_seq (C := fun z => C z ∨ z = Bp) (Ct := C) HIT.out (HT.out.stays (.of_below HBW.out)) HN.out (Below.refl _ _) (fun b hb => ?hC) (Or.inr rfl) (fun z hz => Or.inl hz)) (fun _ => rfl) (fun b hb => ?hCB) (fun b hb => ?hC2) (fun b hb => ?hB0)
    (fun pre B N Wx => ∃ (Bo No : Nat → Prop) (g cap : Nat), LvI wc.heap.size (fun z => C z ∨ z = Bp) W l (W.heap.size + 2) n J pre B N Wx Bo No g cap)
    (fun c pre B N Wx => c = .ret ∧ ∃ (Bo No : Nat → Prop) (q : List (Tm × Int)), q <+: walkL t n ∧ (∀ z, Bo z → B z) ∧ (∀ z, ¬ No z) ∧ Jx q Bo No Wx)
    ?hI ?hIx ?hG (fun pre B N A h z hz => by obtain ⟨Bo, No, g, cap, h⟩ := h; exact (h.lt z hz).1) (fun x Y A z hg hz => absurd hz (hg.2 z)) ?h0
    (fun x s a' Wx => ∃ b5 : Nat, s ≤ b5 ∧ Wx.heap[b5]? = some (.cells x.2.1.cells 29 (0, 0)) ∧ a' = { tmps := #[.func (.yield l) #[] #[], .pointer (some ⟨Bn, 0, none⟩), .pointer (some ⟨Be, 0, none⟩), .pointer (some ⟨W.heap.size, 0, none⟩), .pointer (some ⟨W.heap.size + 2, 0, none⟩), .pointer (some ⟨b5, 0, none⟩), .int .i64 (x.2.2 : Nat), undef, .int .i64 n, .slice (some ⟨W.heap.size + 1, 0, none⟩) 1 1, tmV t tp tc rp rc p c, iterM Bt Bp, x.2.1, .int .i64 (x.2.2 : Nat), undef, undef, undef, undef, undef, undef, undef, undef, undef, undef, undef, undef, undef, undef, undef, undef, undef, undef], defers := [] })
    ?hAx ?assign ?body ?done ?stop
  case hC =>
    rcases hb with hb | rfl
    · exact Nat.lt_of_lt_of_le (HC.out b hb) HBW.out.size
    · exact (Array.getElem?_eq_some_iff.1 HIT.out.bp).1
  case hC2 =>
    rcases hb with hb | rfl
    · exact Nat.lt_of_lt_of_le (HC.out b hb) HBW.out.size
    · exact (Array.getElem?_eq_some_iff.1 HIT.out.bp).1
  case hCB =>
    rintro ((rfl | rfl) | h)
    · rcases hb with hb | hb
      · have := HC.out _ hb; omega
      · omega
    · rcases hb with hb | hb
      · have := HC.out _ hb; omega
      · omega
    · rcases hb with hb | hb
      · exact HCB.out b hb h
      · have := HB0.out b h; omega
  case hB0 =>
    rcases hb with (rfl | rfl) | h
    · omega
    · omega
    · have := HB0.out b h; omega
  case hI =>
    rintro pre B N A A' ⟨Bo, No, g, cap, h⟩ hk
    exact ⟨Bo, No, g, cap, h.keep (by omega) HJ.out hk⟩
  case hIx =>
    rintro c pre B N A A' ⟨e, Bo, No, q, h1, h2, h3, h4⟩ hk
    exact ⟨e, Bo, No, q, h1, h2, h3, HJX.out _ _ _ _ _ h4 (hk.mono (by omega) (fun b hb => hb.elim (fun h => Or.inl (h2 b h)) (fun h => absurd h (h3 b))))⟩
  case hG =>
    intro x Y A A' l' r hl hg hr hA
    exact goodND_loop hg hA (fun h => by have := HC.out _ h; omega)
  case h0 =>
    obtain ⟨k0, k1, k2⟩ := HK.out
    refine ⟨B0, fun _ => False, W.heap.size + 1, 1, fun _ => Iff.rfl, ⟨fun h => ?_, fun h => ?_, by omega, by omega, by omega⟩, fun z hz => ?_, fun z hz => hz, fun z hz => hz, k2, ?_, HJ.out _ _ _ _ _ HJ0.out (.of_below (Nat.le_refl _) HBW.out), k0, Nat.le_refl _, fun h => ?_, fun h => ?_⟩
    · have := HB0.out _ h; omega
    · have := HB0.out _ h; omega
    · rcases hz with (rfl | rfl) | h
      · omega
      · omega
      · have := HB0.out z h; omega
    · exact ⟨rfl, Or.inr ⟨W.heap.size + 1, 1, _, rfl, Nat.le_refl _, k1, Nat.le_refl _, by unfold maxLen; omega, rfl, rfl⟩⟩
    · rcases h with h | h
      · have := HC.out _ h; omega
      · omega
    · rcases h with h | h
      · have := HC.out _ h; omega
      · omega
  case hAx =>
    rintro x s a' Wx l' r o ⟨b5, hs, h, e⟩ hl
    exact ⟨b5, hs, (World.putObj_heap_other (by rintro rfl; rw [hl] at h; cases h)).trans h, e⟩
  case assign =>
    rintro l' ⟨xt, v, d⟩ Y Wx K hg hK
    obtain ⟨tp', tc', rp', rc', p', c', rfl, hG'⟩ := (show TM Wx _ xt v from hg.1)
    have HK := Lib.hid hK
    clear hK
    gi_wp2
    exact HK.out _ _ ((Below.refl _ Wx).alloc (Nat.le_refl _) _) ⟨Wx.heap.size, Nat.le_refl _, blk_new _ _, by simp⟩
  case done =>
    rintro D B N Wx hD hne ⟨Bo, No, g, cap, hI⟩ hK
    gi_wp2
    refine ⟨by simp, .inl ⟨_, _, rfl, run_takeDeferred hK, ?_⟩⟩
    refine ⟨_, results_none rfl _ _ _, ⟨_, rfl⟩, .inl ⟨Bo, No, ?_⟩⟩
    rw [← lvs_all]
    exact HJ.out _ _ _ _ _ hI.j ⟨below_putObj _ _ _ _ (by omega), fun z hz _ => World.putObj_heap_other (hz.elim (fun h => hne z (Or.inl ((hI.split z).2 (Or.inr h)))) (fun h => absurd h (hI.no z)))⟩
  case stop =>
    rintro D c pre B N Wx hD hne hpre ⟨rfl, Bo, No, q, h1, h2, h3, h4⟩ hK
    gi_wp2
    refine ⟨by simp, .inl ⟨_, _, rfl, run_takeDeferred hK, ?_⟩⟩
    refine ⟨_, results_none rfl _ _ _, ⟨_, rfl⟩, .inr ⟨q, Bo, No, h1, ?_⟩⟩
    exact HJX.out _ _ _ _ _ h4 ⟨below_putObj _ _ _ _ (by omega), fun z hz _ => World.putObj_heap_other (hz.elim (fun h => hne z (Or.inl (h2 z h))) (fun h => absurd h (h3 z)))⟩
  case body =>
    rintro l' pre ⟨xt, v, d⟩ s a' Y B N Wx ⟨Bo, No, g, cap, hI⟩ hpre hg hYB hs ⟨b5, hbs, hb5, rfl⟩ ⟨r, hl⟩ hBl
    have hpre : pre ++ [(xt, d)] <+: walkM t 1 := hpre
    have hb5 : Wx.heap[b5]? = some (.cells v.cells 29 (0, 0)) := hb5
    obtain ⟨tp', tc', rp', rc', p', c', rfl, hG'⟩ := (show TM Wx _ xt v from hg.1)
    simp only [Value.cells] at hb5
    have hok : 1 ≤ d ∧ d ≤ (stkL [n] pre).length := okL_pre (l := n) hpre
    have hdm : d ≤ 2097153 := depth_pre (t := t) (x := xt) (d := d) (hpre.subset (by simp)) HN.out
    obtain ⟨d0, rfl⟩ : ∃ d0, d = d0 + 1 := ⟨d - 1, by omega⟩
    obtain ⟨st, hst⟩ : ∃ st, st = stkL [n] pre := ⟨_, rfl⟩
    have hcell := hI.cell
    have hown := hI.own
    have hlvp := lvs_pre (l := n) hpre
    rw [lvs_snoc] at hlvp
    rw [← hst] at hcell hown hok hlvp
    rw [Nat.add_sub_cancel] at hlvp
    obtain ⟨lv, hlv⟩ : ∃ lv, lv = st.getD d0 0 := ⟨_, rfl⟩
    rw [← hlv] at hlvp
    obtain ⟨hcap1, hcap2, hg1, hg2⟩ := row_cap hown
    have f0 := cell_of_blk hcell 0
    simp only [List.getElem?_toArray, List.getElem?_cons_zero] at f0
    have f1 : Wx.cell? ⟨g, d0, none⟩ = some (.int .i64 lv) := by
      rw [hown.cellAt d0 (by omega), hlv]
      have hlt : d0 < st.length := by omega
      simp [lvV, List.getD_eq_getElem?_getD, List.getElem?_eq_getElem hlt]
    have yb0 := cell_of_blk hI.yb 0
    simp only [List.getElem?_toArray, List.getElem?_cons_zero] at yb0
    obtain ⟨x0, x1, x2, x3, x4, x5, x6, x7, x8⟩ := Bx9.of hb5
    obtain ⟨fn, tmps, assign, body, hy, hR⟩ := YieldAt.any' (b := 0) (HY.out (lvs pre [n]) ((xt, lv), tmV xt tp' tc' rp' rc' p' c') (fun _ => False) Bo No Wx hI.j hlvp ⟨ntM_mk hG', fun z hz => hz⟩ (fun _ h => h.elim)) l'
    have hnb5 : ¬ B b5 := fun h => by have := hs b5 h; omega
    have HI := Lib.hid hI
    have HPRE := Lib.hid hpre
    have HLVP := Lib.hid hlvp
    have HOWN := Lib.hid hown
    have HST := Lib.hid hst
    have HLV := Lib.hid hlv
    have HR := Lib.hid hR
    have HB5 := Lib.hid hb5
    have HNB5 := Lib.hid hnb5
    have HCELL := Lib.hid hcell
    have HD := Lib.hid hok
    have i0' : (0 : Int) ≤ (d0 : Int) := Int.natCast_nonneg _
    have i1' : (d0 : Int) < (st.length : Int) := by omega
    have hdm' : d0 + 1 ≤ 2097153 := hdm
    unfold maxLen at hcap2
    clear hI hpre hlvp hown hst hlv hR hb5 hnb5 hcell hok hdm hg hYB hs hbs hl hBl hG'
    simp only [encL] at hy
    rw [show ((d0 + 1 : Nat) : Int) = (d0 : Int) + 1 from rfl]
    gi_wp2_with fail
    refine ⟨rfl, ?_⟩
    refine HR.out.mono ?_
    rintro e W3 ⟨Bo', No', hgr, hno, ⟨rfl, hJ3, hH3⟩ | ⟨rfl, hJx3, hH3⟩⟩
    · have hI := HI.out
      have hk3 : ∀ z, ¬ Bo z → z < Wx.heap.size → W3.heap[z]? = Wx.heap[z]? := fun z h1 h2 => hH3.2 z h2 h1
      have hlbc := (hI.lt _ ((hI.split _).2 (Or.inl (Or.inl rfl)))).1
      have hcell3 := (hk3 _ hI.apart.1 hlbc).trans HCELL.out
      have hown3 := row_of_block HOWN.out (hk3 g hI.apart.2.1 hg2)
      have hb53 := (hk3 b5 (fun h => HNB5.out ((hI.split b5).2 (Or.inr h))) (Array.getElem?_eq_some_iff.1 HB5.out).1).trans HB5.out
      have f0' := cell_of_blk hcell3 0
      have fz := unfrozen_of_blk hcell3 0
      simp only [List.getElem?_toArray, List.getElem?_cons_zero] at f0'
      obtain ⟨y0, y1, y2, y3, y4, y5, y6, y7, y8⟩ := Bx9.of hb53
      have HG := Lib.hid (And.intro hgr (And.intro hno (And.intro hJ3 hH3)))
      have HOWN3 := Lib.hid hown3
      obtain ⟨i0, hi, hz0, hz1, hz2⟩ := info_parts infoI64
      have HLB := Lib.hid (show W.heap.size + 2 < W3.drew.heap.size from Nat.lt_of_lt_of_le hlbc hH3.1)
      have HGB := Lib.hid (show ¬ g = W.heap.size + 2 from hI.apart.2.2.1)
      have HCX := Lib.hid (show ∀ z, (C z ∨ z = Bp) → z < wc.heap.size from fun z hz => hz.elim (fun h => Nat.lt_of_lt_of_le (HC.out z h) HBW.out.size) (fun h => h ▸ (Array.getElem?_eq_some_iff.1 HIT.out.bp).1))
      have HCELL3 := Lib.hid hcell3
      have HTAKE := Lib.hid (row_take hown3 (m := d0 + 1) (by omega))
      have hfn : ∀ k, Fence.wide.fn k := fun _ => trivial
      have hfo : Tryz.prog.follows .mixedOrders = true := by kernel_rfl
      clear hI hk3 hcell3 hown3 hb53 hgr hno hJ3 hH3 hy x0 x1 x2 x3 x4 x5 x6 x7 x8 f0 f1 yb0
      gi_wp2_with fail
      refine wpIn_region_round hfo (by kernel_rfl) ?_
      refine wpAnyIn_take (i := 1) (v := ?_) rfl rfl (by kernel_rfl) (by kernel_rfl) (by kernel_rfl) (fun _ _ _ h => h) ⟨Or.inl ⟨by rfl, ?_⟩, fun _ => rfl⟩ ?_
      rotate_left
      · intro w
        go_simp
        first
          | with_reducible rfl
          | (rw [if_pos ⟨by omega, by omega⟩]; done)
      refine wpAnyIn_take (i := 4) (v := ?_) rfl rfl (by kernel_rfl) (by kernel_rfl) (by kernel_rfl) (fun _ _ _ h => h) ⟨Or.inl ⟨by rfl, ?_⟩, fun _ => rfl⟩ ?_
      rotate_left
      · intro w
        go_simp
        first
          | with_reducible rfl
          | (rw [if_pos ⟨by omega, by omega⟩]; done)
      refine wpAnyIn_ready (rs := [0, 3]) (by kernel_rfl) (by simp) ?_
      refine AllReadyIn.cons rfl (fun K hK => ?_) ?_
      · go_simp
        refine hK _ _ ?_
        clear hK K
        refine wpAnyIn_take (i := 2) (v := ?_) rfl rfl (by kernel_rfl) (by kernel_rfl) (by kernel_rfl) (fun _ _ _ h => h) ⟨Or.inl ⟨by rfl, ?_⟩, fun _ => rfl⟩ ?_
        rotate_left
        · intro w
          go_simp
          first
            | with_reducible rfl
            | (rw [if_pos ⟨by omega, by omega⟩]; done)
        refine wpAnyIn_ready (rs := [3]) (by kernel_rfl) (by simp) ?_
        refine AllReadyIn.cons rfl (fun K hK => ?_) AllReadyIn.nil
        go_simp
        refine hK _ _ ?_
        clear hK K
        refine wpAnyIn_ready (rs := [5]) (by kernel_rfl) (by simp) ?_
        refine AllReadyIn.cons rfl (fun K hK => ?_) AllReadyIn.nil
        go_simp
        refine ⟨rfl, ?_⟩
        refine (callsIn_wide.2 (nextI_any xt tp' tc' rp' rc' p' c' lv _)).mono ?_
        rintro e w1 ⟨rfl, hb1⟩
        refine hK _ _ ?_
        clear hK K
        have hcw := (hb1.block _ HLB.out).trans HCELL3.out
        have f2 := cell_of_blk hcw 0
        have f3 := cell_of_blk (((al_below w1 (.cells #[.int .i64 (nextL xt.kind lv)] 3)).block _ (Nat.lt_of_lt_of_le HLB.out hb1.size)).trans hcw) 0
        simp only [List.getElem?_toArray, List.getElem?_cons_zero] at f2 f3
        clear hcw
        refine wpAnyIn_ready (rs := [6]) (by kernel_rfl) (by simp) ?_
        refine AllReadyIn.cons rfl (fun K hK => ?_) AllReadyIn.nil
        go_simp
        refine hK _ _ ?_
        clear hK K
        refine wpAnyIn_ready (rs := [7]) (by kernel_rfl) (by simp) ?_
        refine AllReadyIn.cons rfl (fun K hK => ?_) AllReadyIn.nil
        refine stepIn_app1 (w0 := w1) (base := W.heap.size + 1) (v := .slice (some ⟨g, 0, none⟩) (d0 + 1) cap) (n := d0 + 1) (xs := (lvV st).take ((d0 + 1) * 1)) (cs := [.int .i64 (nextL xt.kind lv)]) rfl (.tmp 26) (.tmp 30) rfl Tryz.underlying117 hi hz0 hz1 hz2 rfl (by decide) rfl (row_below HTAKE.out ((Below.refl W3.heap.size W3).drew.trans hb1)) _ rfl (by simp) rfl (fun u hu => by simp at hu; subst hu; rfl) (by unfold maxLen; omega) (by omega) (by have h1 := hb1.size; have h2 := HLB.out; omega) ?_
        intro w' g2 cap2 hA
        have hcw := ((hA.kept (W.heap.size + 2) (Nat.lt_of_lt_of_le HLB.out hb1.size) (by simp only [Value.ownBlock, ne_eq, Option.some.injEq]; exact HGB.out)).1.trans (hb1.block _ HLB.out)).trans HCELL3.out
        have f4 := cell_of_blk hcw 0
        have z4 := unfrozen_of_blk hcw 0
        simp only [List.getElem?_toArray, List.getElem?_cons_zero] at f4
        clear hcw
        refine hK _ _ ?_
        clear hK K
        refine wpAnyIn_ready (rs := [8]) (by kernel_rfl) (by simp) ?_
        refine AllReadyIn.cons rfl (fun K hK => ?_) AllReadyIn.nil
        go_simp
        refine hK _ _ ?_
        clear hK K
        refine wpAnyIn_done (by kernel_rfl) ?_ _
        gi_wp2_with fail
        exact LvI.step HI.out (by omega) HCX.out HST.out HD.out.2 HLV.out HJ.out HG.out.1 HG.out.2.2.2 HG.out.2.1 HG.out.2.2.1 ((Below.refl W3.heap.size W3).drew.trans hb1) hA
      refine AllReadyIn.cons rfl (fun K hK => ?_) AllReadyIn.nil
      go_simp
      refine hK _ _ ?_
      clear hK K
      refine wpAnyIn_ready (rs := [0, 5]) (by kernel_rfl) (by simp) ?_
      refine AllReadyIn.cons rfl (fun K hK => ?_) ?_
      · go_simp
        refine hK _ _ ?_
        clear hK K
        refine wpAnyIn_take (i := 2) (v := ?_) rfl rfl (by kernel_rfl) (by kernel_rfl) (by kernel_rfl) (fun _ _ _ h => h) ⟨Or.inl ⟨by rfl, ?_⟩, fun _ => rfl⟩ ?_
        rotate_left
        · intro w
          go_simp
          first
            | with_reducible rfl
            | (rw [if_pos ⟨by omega, by omega⟩]; done)
        refine wpAnyIn_ready (rs := [5]) (by kernel_rfl) (by simp) ?_
        refine AllReadyIn.cons rfl (fun K hK => ?_) AllReadyIn.nil
        go_simp
        refine ⟨rfl, ?_⟩
        refine (callsIn_wide.2 (nextI_any xt tp' tc' rp' rc' p' c' lv _)).mono ?_
        rintro e w1 ⟨rfl, hb1⟩
        refine hK _ _ ?_
        clear hK K
        have hcw := (hb1.block _ HLB.out).trans HCELL3.out
        have f2 := cell_of_blk hcw 0
        have f3 := cell_of_blk (((al_below w1 (.cells #[.int .i64 (nextL xt.kind lv)] 3)).block _ (Nat.lt_of_lt_of_le HLB.out hb1.size)).trans hcw) 0
        simp only [List.getElem?_toArray, List.getElem?_cons_zero] at f2 f3
        clear hcw
        refine wpAnyIn_ready (rs := [6]) (by kernel_rfl) (by simp) ?_
        refine AllReadyIn.cons rfl (fun K hK => ?_) AllReadyIn.nil
        go_simp
        refine hK _ _ ?_
        clear hK K
        refine wpAnyIn_ready (rs := [7]) (by kernel_rfl) (by simp) ?_
        refine AllReadyIn.cons rfl (fun K hK => ?_) AllReadyIn.nil
        refine stepIn_app1 (w0 := w1) (base := W.heap.size + 1) (v := .slice (some ⟨g, 0, none⟩) (d0 + 1) cap) (n := d0 + 1) (xs := (lvV st).take ((d0 + 1) * 1)) (cs := [.int .i64 (nextL xt.kind lv)]) rfl (.tmp 26) (.tmp 30) rfl Tryz.underlying117 hi hz0 hz1 hz2 rfl (by decide) rfl (row_below HTAKE.out ((Below.refl W3.heap.size W3).drew.trans hb1)) _ rfl (by simp) rfl (fun u hu => by simp at hu; subst hu; rfl) (by unfold maxLen; omega) (by omega) (by have h1 := hb1.size; have h2 := HLB.out; omega) ?_
        intro w' g2 cap2 hA
        have hcw := ((hA.kept (W.heap.size + 2) (Nat.lt_of_lt_of_le HLB.out hb1.size) (by simp only [Value.ownBlock, ne_eq, Option.some.injEq]; exact HGB.out)).1.trans (hb1.block _ HLB.out)).trans HCELL3.out
        have f4 := cell_of_blk hcw 0
        have z4 := unfrozen_of_blk hcw 0
        simp only [List.getElem?_toArray, List.getElem?_cons_zero] at f4
        clear hcw
        refine hK _ _ ?_
        clear hK K
        refine wpAnyIn_ready (rs := [8]) (by kernel_rfl) (by simp) ?_
        refine AllReadyIn.cons rfl (fun K hK => ?_) AllReadyIn.nil
        go_simp
        refine hK _ _ ?_
        clear hK K
        refine wpAnyIn_done (by kernel_rfl) ?_ _
        gi_wp2_with fail
        exact LvI.step HI.out (by omega) HCX.out HST.out HD.out.2 HLV.out HJ.out HG.out.1 HG.out.2.2.2 HG.out.2.1 HG.out.2.2.1 ((Below.refl W3.heap.size W3).drew.trans hb1) hA
      refine AllReadyIn.cons rfl (fun K hK => ?_) AllReadyIn.nil
      go_simp
      refine ⟨rfl, ?_⟩
      refine (callsIn_wide.2 (nextI_any xt tp' tc' rp' rc' p' c' lv _)).mono ?_
      rintro e w1 ⟨rfl, hb1⟩
      refine hK _ _ ?_
      clear hK K
      have hcw := (hb1.block _ HLB.out).trans HCELL3.out
      have f2 := cell_of_blk hcw 0
      have f3 := cell_of_blk (((al_below w1 (.cells #[.int .i64 (nextL xt.kind lv)] 3)).block _ (Nat.lt_of_lt_of_le HLB.out hb1.size)).trans hcw) 0
      simp only [List.getElem?_toArray, List.getElem?_cons_zero] at f2 f3
      clear hcw
      refine wpAnyIn_ready (rs := [0, 6]) (by kernel_rfl) (by simp) ?_
      refine AllReadyIn.cons rfl (fun K hK => ?_) ?_
      · go_simp
        refine hK _ _ ?_
        clear hK K
        refine wpAnyIn_take (i := 2) (v := ?_) rfl rfl (by kernel_rfl) (by kernel_rfl) (by kernel_rfl) (fun _ _ _ h => h) ⟨Or.inl ⟨by rfl, ?_⟩, fun _ => rfl⟩ ?_
        rotate_left
        · intro w
          go_simp
          first
            | with_reducible rfl
            | (rw [if_pos ⟨by omega, by omega⟩]; done)
        refine wpAnyIn_ready (rs := [6]) (by kernel_rfl) (by simp) ?_
        refine AllReadyIn.cons rfl (fun K hK => ?_) AllReadyIn.nil
        go_simp
        refine hK _ _ ?_
        clear hK K
        refine wpAnyIn_ready (rs := [7]) (by kernel_rfl) (by simp) ?_
        refine AllReadyIn.cons rfl (fun K hK => ?_) AllReadyIn.nil
        refine stepIn_app1 (w0 := w1) (base := W.heap.size + 1) (v := .slice (some ⟨g, 0, none⟩) (d0 + 1) cap) (n := d0 + 1) (xs := (lvV st).take ((d0 + 1) * 1)) (cs := [.int .i64 (nextL xt.kind lv)]) rfl (.tmp 26) (.tmp 30) rfl Tryz.underlying117 hi hz0 hz1 hz2 rfl (by decide) rfl (row_below HTAKE.out ((Below.refl W3.heap.size W3).drew.trans hb1)) _ rfl (by simp) rfl (fun u hu => by simp at hu; subst hu; rfl) (by unfold maxLen; omega) (by omega) (by have h1 := hb1.size; have h2 := HLB.out; omega) ?_
        intro w' g2 cap2 hA
        have hcw := ((hA.kept (W.heap.size + 2) (Nat.lt_of_lt_of_le HLB.out hb1.size) (by simp only [Value.ownBlock, ne_eq, Option.some.injEq]; exact HGB.out)).1.trans (hb1.block _ HLB.out)).trans HCELL3.out
        have f4 := cell_of_blk hcw 0
        have z4 := unfrozen_of_blk hcw 0
        simp only [List.getElem?_toArray, List.getElem?_cons_zero] at f4
        clear hcw
        refine hK _ _ ?_
        clear hK K
        refine wpAnyIn_ready (rs := [8]) (by kernel_rfl) (by simp) ?_
        refine AllReadyIn.cons rfl (fun K hK => ?_) AllReadyIn.nil
        go_simp
        refine hK _ _ ?_
        clear hK K
        refine wpAnyIn_done (by kernel_rfl) ?_ _
        gi_wp2_with fail
        exact LvI.step HI.out (by omega) HCX.out HST.out HD.out.2 HLV.out HJ.out HG.out.1 HG.out.2.2.2 HG.out.2.1 HG.out.2.2.1 ((Below.refl W3.heap.size W3).drew.trans hb1) hA
      refine AllReadyIn.cons rfl (fun K hK => ?_) AllReadyIn.nil
      go_simp
      refine hK _ _ ?_
      clear hK K
      refine wpAnyIn_ready (rs := [0]) (by kernel_rfl) (by simp) ?_
      refine AllReadyIn.cons rfl (fun K hK => ?_) AllReadyIn.nil
      go_simp
      refine hK _ _ ?_
      clear hK K
      refine wpAnyIn_take (i := 2) (v := ?_) rfl rfl (by kernel_rfl) (by kernel_rfl) (by kernel_rfl) (fun _ _ _ h => h) ⟨Or.inl ⟨by rfl, ?_⟩, fun _ => rfl⟩ ?_
      rotate_left
      · intro w
        go_simp
        first
          | with_reducible rfl
          | (rw [if_pos ⟨by omega, by omega⟩]; done)
      refine wpAnyIn_ready (rs := [7]) (by kernel_rfl) (by simp) ?_
      refine AllReadyIn.cons rfl (fun K hK => ?_) AllReadyIn.nil
      refine stepIn_app1 (w0 := w1) (base := W.heap.size + 1) (v := .slice (some ⟨g, 0, none⟩) (d0 + 1) cap) (n := d0 + 1) (xs := (lvV st).take ((d0 + 1) * 1)) (cs := [.int .i64 (nextL xt.kind lv)]) rfl (.tmp 26) (.tmp 30) rfl Tryz.underlying117 hi hz0 hz1 hz2 rfl (by decide) rfl (row_below HTAKE.out ((Below.refl W3.heap.size W3).drew.trans hb1)) _ rfl (by simp) rfl (fun u hu => by simp at hu; subst hu; rfl) (by unfold maxLen; omega) (by omega) (by have h1 := hb1.size; have h2 := HLB.out; omega) ?_
      intro w' g2 cap2 hA
      have hcw := ((hA.kept (W.heap.size + 2) (Nat.lt_of_lt_of_le HLB.out hb1.size) (by simp only [Value.ownBlock, ne_eq, Option.some.injEq]; exact HGB.out)).1.trans (hb1.block _ HLB.out)).trans HCELL3.out
      have f4 := cell_of_blk hcw 0
      have z4 := unfrozen_of_blk hcw 0
      simp only [List.getElem?_toArray, List.getElem?_cons_zero] at f4
      clear hcw
      refine hK _ _ ?_
      clear hK K
      refine wpAnyIn_ready (rs := [8]) (by kernel_rfl) (by simp) ?_
      refine AllReadyIn.cons rfl (fun K hK => ?_) AllReadyIn.nil
      go_simp
      refine hK _ _ ?_
      clear hK K
      refine wpAnyIn_done (by kernel_rfl) ?_ _
      gi_wp2_with fail
      exact LvI.step HI.out (by omega) HCX.out HST.out HD.out.2 HLV.out HJ.out HG.out.1 HG.out.2.2.2 HG.out.2.1 HG.out.2.2.1 ((Below.refl W3.heap.size W3).drew.trans hb1) hA
    · gi_wp2_with fail
      exact LvI.stop HI.out hgr hH3 hno HLVP.out hJx3
end Go.Proofs.YteoeefmdfalnjaaGreatDoor
namespace Go.Proofs.YteoeefmdfalnjaaGreatDoor
open Go Go.RowKit
def LvNode (e : Tm × Int) : Prop := (0 ≤ e.2 ∧ e.2 ≤ 2) ∧ e.1.NodeOk
mutual
theorem isT_walkL : ∀ (t : Tm) (l : Int), t.IsT ↔ ∀ e ∈ walkL t l, e.1.NodeOk
  | .mk k a b n t r ts, l => by
    have h := isT_walkLS ts (nextL k l)
    rw [Tm.IsT_eq]
    show IsTS ts ∧ _ ∧ _ ↔ _
    rw [h]
    simp only [walkL, List.forall_mem_cons]
    exact And.comm
theorem isT_walkLS : ∀ (ts : List Tm) (l : Int), IsTS ts ↔ ∀ e ∈ walkLS ts l, e.1.NodeOk
  | [], l => by simp [IsTS, walkLS]
  | t :: ts, l => by
    have h1 := isT_walkLS ts l
    have h2 := isT_walkL t l
    simp only [IsTS, walkLS, List.forall_mem_append, h1, h2]
end
theorem levels_walk (t : Tm) (l : Int) : (t.IsT ∧ t.lvOk l) ↔ ∀ e ∈ walkL t l, LvNode e := by
  rw [isT_walkL t l, lvOk_walk]
  exact ⟨fun h e he => ⟨h.2 e he, h.1 e he⟩, fun h => ⟨fun e he => (h e he).2, fun e he => (h e he).1⟩⟩
end Go.Proofs.YteoeefmdfalnjaaGreatDoor
namespace Go.Proofs.YteoeefmdfalnjaaGreatDoor
open Go Go.RowKit Go.Shelf
attribute [local go_sem] Oper.semAt_some

abbrev iterL (Bn Be : Nat) : Value := .func (.func 113) #[] #[.pointer (some ⟨Bn, 0, none⟩), .pointer (some ⟨Be, 0, none⟩)]
def IterL (w : World) (t : Tm) (tp : Option Addr) (tc : Nat) (rp : Option Addr) (rc : Nat) (p : Option Addr) (c : Nat) (n : Int) (Bn Be : Nat) : Prop := w.heap[Bn]? = some (.cells #[.int .i64 n] 3 (0, 0)) ∧ w.heap[Be]? = some (.cells (tmC t tp tc rp rc p c) 29 (0, 0))
set_option maxRecDepth 100000 in
theorem nwl_any (t : Tm) (tp : Option Addr) (tc : Nat) (rp : Option Addr) (rc : Nat) (p : Option Addr) (c : Nat) (n : Int) (w : World) : Calls Tryz.prog 50 #[tmV t tp tc rp rc p c, .int .i64 n] w fun e w' =>
    ∃ Bn Be, e = .returned (iterL Bn Be) ∧ IterL w' t tp tc rp rc p c n Bn Be ∧ Below w.heap.size w w' := by
  go_enter Tryz.func50, Tryz.ntmps50
  go_wp2
  obtain ⟨wl, hwl, hsz, hbl, k1, k2⟩ := box_new2 w (tmC t tp tc rp rc p c) #[.int .i64 n] 29 3
  rw [hwl]
  go_ret
  exact ⟨_, _, rfl, ⟨k2, k1⟩, hbl⟩
theorem levels_seq {w wl : World} {C : Nat → Prop} {t : Tm} {tp : Option Addr} {tc : Nat} {rp : Option Addr} {rc : Nat} {p : Option Addr} {c : Nat} {n : Int} {Bn Be : Nat} (h : IterL w t tp tc rp rc p c n Bn Be) (hT : TM' w C t tp tc rp rc p c) (hn : t.nodes ≤ 2097153) (hb : Below w.heap.size w wl) (hC : ∀ b, C b → b < w.heap.size) :
    SeqD Fence.wide 2 Tryz.prog 113 #[.pointer (some ⟨Bn, 0, none⟩), .pointer (some ⟨Be, 0, none⟩)] encL keyL (GoodL C) C (walkL t n) wl := by
  intro l J Jx B0 W hbW hCB hB0 hJ hJx hY h0
  have hbb : Below w.heap.size w W := hb.trans (hbW.mono hb.size)
  exact levels_it l Bn Be t tp tc rp rc p c n C B0 W J Jx ((hbb.block _ (Array.getElem?_eq_some_iff.1 h.1).1).trans h.1) ((hbb.block _ (Array.getElem?_eq_some_iff.1 h.2).1).trans h.2) (hT.stays (.of_below hbb)) hn (fun b hc => Nat.lt_of_lt_of_le (hC b hc) hbb.size) hCB hB0 hJ hJx hY h0
theorem goodL_loop {C : Nat → Prop} {x : (Tm × Int) × Value} {Y : Nat → Prop} {A A' : World} {l : Nat} (h : GoodL C x Y A) (hA : Holds (fun b => b = l) A A') (hC : ¬ C l) : GoodL C x Y A' :=
  ⟨nstaysM h.1 ⟨hA.1, fun b hb hlt => hA.2 b hlt (fun e => hC (e ▸ hb))⟩, h.2⟩
theorem not_lv_at {t x : Tm} {n lv : Int} {pre : List (Tm × Int)} (h : pre ++ [(x, lv)] <+: walkL t n) (hx : ¬ LvNode (x, lv)) : ¬ (t.IsT ∧ t.lvOk n) := fun hh =>
  hx ((levels_walk t n).1 hh (x, lv) (h.subset (by simp)))
mutual
theorem wt_walkL : ∀ (t : Tm) (l : Int) (e : Tm × Int), e ∈ walkL t l → e.1.wt ≤ t.wt
  | .mk k a b n t r ts, l, e, h => by
    rw [walkL] at h
    rcases List.mem_cons.1 h with rfl | h
    · exact Nat.le_refl _
    · have h1 := wt_walkLS ts _ e h
      simp only [Tm.wt]
      omega
theorem wt_walkLS : ∀ (ts : List Tm) (l : Int) (e : Tm × Int), e ∈ walkLS ts l → e.1.wt ≤ wtS ts
  | [], l, e, h => by simp [walkLS] at h
  | t :: ts, l, e, h => by
    rw [walkLS] at h
    rcases List.mem_append.1 h with h | h
    · have h1 := wt_walkL t l e h
      simp only [wtS]
      omega
    · have h1 := wt_walkLS ts l e h
      simp only [wtS]
      omega
end

set_option maxRecDepth 100000 in
set_option maxHeartbeats 2000000 in
theorem levI_any {C : Nat → Prop} {t : Tm} {v : Value} {w : World} (n : Int) (hka : KA w) (h : TM w C t v) (hn : t.wt ≤ 2097152) :
    Calls Tryz.prog 9 #[v, .int .i64 n] w (Tells (t.IsT ∧ t.lvOk n) w) := by
  have hnt : t.nodes ≤ 2097153 := by have := t.nodes_wt; omega
  have HKA := Lib.hid (fun (w' : World) (hb : Below w.heap.size w w') => hka.below hb)
  have HWT := Lib.hid hn
  clear hka hn
  obtain ⟨tp, tc, rp, rc, p, c, rfl, hT⟩ := h
  have HT := Lib.hid (hT.mono (C' := (· < w.heap.size)) (fun _ _ h => h))
  clear hT
  refine (callsIn_wide (n := 3)).1 ?_
  refine callsIn_of_wp_marks Tryz.func9 rfl trivial ?_ rfl
  simp only [Tryz.ntmps9, List.size_toArray, List.length_cons, List.length_nil, Nat.reduceAdd, Nat.reduceSub, Array.replicate_succ, Array.replicate_zero, List.push_toArray, List.append_toArray, List.nil_append, List.cons_append]
  gi_wp2_with fail
  obtain ⟨w0, hw0, hs0, hb0, hk0, hk1⟩ := box_new2 w (tmC t tp tc rp rc p c) #[.bool false] 29 4
  rw [hw0]
  refine ⟨trivial, ?_⟩
  refine (callsIn_wide.2 (nwl_any t tp tc rp rc p c n w0)).mono ?_
  rintro e wl ⟨Bn, Be, rfl, hI, hbw⟩
  have hsz := hbw.size
  have hbl : Below w.heap.size w wl := hb0.trans (hbw.mono hb0.size)
  have k1 : wl.heap[w.heap.size + 1]? = some (.cells #[.bool false] 4 (0, 0)) := (hbw.block _ (by omega)).trans hk1
  have HSL : TM' wl (· < w.heap.size) t tp tc rp rc p c := HT.out.stays (.of_below hbl)
  clear hk0 hk1 hb0 hw0
  gi_wp2_with fail
  refine rangeD_law (F := Fence.wide) (n := 3) rfl (by omega) (gf := 113) (lb := #[.pointer (some ⟨Bn, 0, none⟩), .pointer (some ⟨Be, 0, none⟩)]) rfl trivial (enters_of Tryz.func113 (by kernel_rfl) rfl)
    (B0 := fun b => b = w.heap.size + 1) (levels_seq hI HSL hnt (Below.refl _ _) (fun b h => by omega)) (fun _ => rfl) (fun b h h2 => by omega) (fun b h => by omega) (fun b h => by omega)
    (fun pre B N W => (∀ z, B z ↔ z = w.heap.size + 1) ∧ (∀ z, ¬ N z) ∧ W.heap[w.heap.size + 1]? = some (.cells #[.bool false] 4 (0, 0)) ∧ (∀ e ∈ pre, LvNode e) ∧ Below w.heap.size w W)
    (fun j pre B N W => (∀ z, B z ↔ z = w.heap.size + 1) ∧ j = .ret ∧ W.cell? ⟨w.heap.size + 1, 0, none⟩ = some (.bool false) ∧ ¬ (t.IsT ∧ t.lvOk n) ∧ Below w.heap.size w W)
    (fun pre B N A A' h hk => ⟨h.1, h.2.1, (hk.1.block _ (by omega)).trans h.2.2.1, h.2.2.2.1, h.2.2.2.2.trans (hk.1.mono (by omega))⟩)
    (fun j pre B N A A' h hk => ⟨h.1, h.2.1, (hk.1.cell (by show w.heap.size + 1 < _; omega)).trans h.2.2.1, h.2.2.2.1, h.2.2.2.2.trans (hk.1.mono (by omega))⟩)
    (fun x Y A A' l r hl hg hr hA => goodL_loop hg hA (by omega)) (fun pre B N A h z hz => by rw [(h.1 z).1 hz]; exact (Array.getElem?_eq_some_iff.1 h.2.2.1).1) (fun x Y A z hg hz => absurd hz (hg.2 z)) ⟨fun _ => Iff.rfl, fun _ h => h, k1, (fun e he => absurd he (List.not_mem_nil)), hbl⟩
    (fun x s a' W => ∃ bx, W.heap[bx]? = some (.cells x.2.cells 29 (0, 0)) ∧ a' = { tmps := #[tmV t tp tc rp rc p c, .int .i64 n, .pointer (some ⟨w.heap.size, 0, none⟩), undef, .pointer (some ⟨w.heap.size + 1, 0, none⟩), .pointer (some ⟨bx, 0, none⟩), .int .i64 x.1.2,
      tmV t tp tc rp rc p c, .int .i64 n, iterL Bn Be, x.2, .int .i64 x.1.2, undef, undef, undef, undef, undef, undef, undef, undef, undef, undef, undef], defers := [] })
    (fun x s a' W l r o h hl => by
      obtain ⟨bx, h2, h3⟩ := h
      exact ⟨bx, (World.putObj_heap_other (fun e => by rw [e, hl] at h2; cases h2)).trans h2, h3⟩) ?assign ?body ?done ?stop
  case assign =>
    rintro l ⟨⟨x, lv⟩, v⟩ Y W K hG hK
    obtain ⟨tp', tc', rp', rc', p', c', rfl, hG'⟩ := (show TM W _ x v from hG.1)
    have HK := Lib.hid hK
    clear hK
    gi_wp2
    exact HK.out _ _ ((Below.refl _ _).alloc (Nat.le_refl _) _) ⟨W.heap.size, blk_new _ _, by simp⟩
  case body =>
    rintro l pre ⟨⟨x, lv⟩, v⟩ s a' Y B N W ⟨hBo, hNo, hr, hso, hB⟩ hpre hG hYB hs ⟨bx, hbx, rfl⟩ hlp hBl
    have hpre : pre ++ [(x, lv)] <+: walkL t n := hpre
    have hbx : W.heap[bx]? = some (.cells v.cells 29 (0, 0)) := hbx
    obtain ⟨tp', tc', rp', rc', p', c', rfl, hG'⟩ := (show TM W _ x v from hG.1)
    simp only [Value.cells] at hbx
    obtain ⟨x0, x1, x2, x3, x4, x5, x6, x7, x8⟩ := Bx9.of hbx
    have hxw : x.wt ≤ 2097152 := by
      have h1 := wt_walkL t n (x, lv) (hpre.subset (by simp))
      have h2 := HWT.out
      simp only at h1
      omega
    have HC := Lib.hid (formI_any W (HKA.out W hB) hG' hxw)
    have HR1 := Lib.hid hr
    have HB1 := Lib.hid hB
    have HSO := Lib.hid hso
    have HP := Lib.hid hpre
    have HBO := Lib.hid hBo
    have HFIN := Lib.hid (fun (W' : World) (hb : Below W.heap.size W W') => show W'.heap[w.heap.size + 1]? = some (.cells #[.bool false] 4 (0, 0)) from (hb.block _ (Array.getElem?_eq_some_iff.1 hr).1).trans hr)
    have hstop : ¬ LvNode (x, lv) → ∀ (W' : World) (q : World), Below W.heap.size W W' → q = W'.setCell ⟨w.heap.size + 1, 0, none⟩ (.bool false) → ∃ B' N' : Nat → Prop, Grew B B' W.heap.size q.heap.size ∧ (∀ z, N' z → N z ∨ Y z) ∧ Holds B W q ∧ (∀ z, B' z ↔ z = w.heap.size + 1) ∧ q.cell? ⟨w.heap.size + 1, 0, none⟩ = some (.bool false) ∧ ¬ (t.IsT ∧ t.lvOk n) ∧ Below w.heap.size w q := by
      rintro hno W' q hb rfl
      have hr2 := HFIN.out W' hb
      have r2 := cell_of_blk hr2 0
      simp only [List.getElem?_toArray, List.getElem?_cons_zero] at r2
      have hlt := (Array.getElem?_eq_some_iff.1 hr2).1
      refine ⟨B, fun _ => False, Grew.refl (fun b hb' => ?_), fun z hz => hz.elim, Holds.setCell (.of_below hb) ⟨w.heap.size + 1, 0, none⟩ ((hBo _).2 rfl) _, hBo, World.cell?_setCell_same' W' ⟨w.heap.size + 1, 0, none⟩ (.bool false) (by rw [r2]; rfl), not_lv_at hpre hno, (hB.trans (hb.mono hB.size)).setCell (p := ⟨w.heap.size + 1, 0, none⟩) (by show w.heap.size ≤ w.heap.size + 1; omega) _⟩
      rw [(hBo b).1 hb']
      simpa [World.setCell] using hlt
    have hgo : LvNode (x, lv) → ∀ (W' : World), Below W.heap.size W W' → ∃ B' N' : Nat → Prop, Grew B B' W.heap.size W'.heap.size ∧ (∀ z, N' z → N z ∨ Y z) ∧ Holds B W W' ∧ (∀ z, B' z ↔ z = w.heap.size + 1) ∧ (∀ z, ¬ N' z) ∧ W'.heap[w.heap.size + 1]? = some (.cells #[.bool false] 4 (0, 0)) ∧ (∀ e ∈ pre ++ [(x, lv)], LvNode e) ∧ Below w.heap.size w W' := by
      intro hx W' hb
      have hr2 := HFIN.out W' hb
      refine ⟨B, fun _ => False, Grew.refl (fun b hb' => ?_), fun z hz => hz.elim, .of_below hb, hBo, fun _ h => h, hr2, fun e he => ?_, hB.trans (hb.mono hB.size)⟩
      · rw [(hBo b).1 hb']
        exact (Array.getElem?_eq_some_iff.1 hr2).1
      · rcases List.mem_append.1 he with he | he
        · exact hso e he
        · simp only [List.mem_singleton] at he
          subst he
          exact hx
    have HSTOP := Lib.hid hstop
    have HGO := Lib.hid hgo
    have r2 := cell_of_blk hr 0
    have rz := unfrozen_of_blk hr 0
    simp only [List.getElem?_toArray, List.getElem?_cons_zero] at r2
    clear hso hpre hr hbx hB k1 hG' HSL hbl hbw hI hxw hBo hNo hYB hs hlp hBl hG hstop hgo
    by_cases hn0 : lv < 0
    · have t1 : decide (lv < 0) = true := by simp [hn0]
      have HN0 := Lib.hid hn0
      clear hn0
      gi_wp2_with fail
      refine ⟨trivial, ?_⟩
      gi_wp2_with fail
      obtain ⟨B', N', h1, h2, h3, h4, h5, h6, h7⟩ := HSTOP.out (fun h => by have h1 := h.1.1; have h2 := HN0.out; simp only at h1; omega) W _ (Below.refl _ _) rfl
      exact ⟨B', N', h1, h2, h3, h4, rfl, h5, h6, h7⟩
    have t1 : decide (lv < 0) = false := by simp; omega
    have HN0 := Lib.hid hn0
    clear hn0
    by_cases hn2 : lv > 2
    · have t2 : decide (2 < lv) = true := by simp; omega
      have HN2 := Lib.hid hn2
      clear hn2
      gi_wp2_with fail
      refine ⟨trivial, ?_⟩
      gi_wp2_with fail
      obtain ⟨B', N', h1, h2, h3, h4, h5, h6, h7⟩ := HSTOP.out (fun h => by have h1 := h.1.2; have h2 := HN2.out; simp only at h1; omega) W _ (Below.refl _ _) rfl
      exact ⟨B', N', h1, h2, h3, h4, rfl, h5, h6, h7⟩
    have t2 : decide (2 < lv) = false := by simp; omega
    have HN2 := Lib.hid hn2
    clear hn2
    gi_wp2_with fail
    refine ⟨trivial, ?_⟩
    refine (CallsIn.inRound l (callsIn_wide.2 HC.out)).mono ?_
    rintro e W2 ⟨b, hb, rfl, hb2⟩
    have HBB := Lib.hid hb
    have HB2 := Lib.hid hb2
    have hr2 := HFIN.out W2 hb2
    have r3 := cell_of_blk hr2 0
    have rz3 := unfrozen_of_blk hr2 0
    simp only [List.getElem?_toArray, List.getElem?_cons_zero] at r3
    clear hb hb2 x0 x1 x2 x3 x4 x5 x6 x7 x8 r2 rz hr2
    cases b with
    | false =>
      gi_wp2_with fail
      obtain ⟨B', N', h1, h2, h3, h4, h5, h6, h7⟩ := HSTOP.out (fun h => by have := HBB.out.2 h.2; cases this) W2 _ HB2.out rfl
      exact ⟨B', N', h1, h2, h3, h4, rfl, h5, h6, h7⟩
    | true =>
      gi_wp2_with fail
      exact HGO.out ⟨⟨by have := HN0.out; omega, by have := HN2.out; omega⟩, HBB.out.1 (by trivial)⟩ W2 HB2.out
  case done =>
    rintro D B N W hD hne ⟨hBo, hNo, hr, hso, hB⟩ hK
    have r0 := cell_of_blk hr 0
    have rz := unfrozen_of_blk hr 0
    simp only [List.getElem?_toArray, List.getElem?_cons_zero] at r0
    have HV := Lib.hid ((levels_walk t n).2 hso)
    have HB := Lib.hid hB
    have hK' : (W.setCell ⟨w.heap.size + 1, 0, none⟩ (.bool true)).heap[D]? = some (.deferred (some [])) := (Below.heap_setCell _ _ _ _ (by show D ≠ w.heap.size + 1; omega)).trans hK
    clear hso hB hr hK k1 HSL hbl hbw hI hBo hNo hne
    gi_wp2_with fail
    refine ⟨by simp, .inl ⟨_, _, rfl, run_takeDeferred hK', ?_⟩⟩
    have hc := (World.cell?_of_block (a := ⟨w.heap.size + 1, 0, none⟩) (w' := (W.setCell ⟨w.heap.size + 1, 0, none⟩ (.bool true)).putObj D (.deferred none)) (World.putObj_heap_other (by show w.heap.size + 1 ≠ D; omega))).trans (World.cell?_setCell_same' W ⟨w.heap.size + 1, 0, none⟩ (.bool true) (by rw [r0]; rfl))
    refine ⟨.bool true, ?_, _, ⟨fun _ => HV.out, fun _ => rfl⟩, rfl, (HB.out.setCell (p := ⟨w.heap.size + 1, 0, none⟩) (by show w.heap.size ≤ w.heap.size + 1; omega) _).trans (below_putObj _ _ _ _ (by omega))⟩
    rw [results_cell1 rfl]
    go_simp
  case stop =>
    rintro D c pre B N W hD hne hpre ⟨hBo, rfl, hr, hv, hB⟩ hK
    have HB := Lib.hid hB
    have HV := Lib.hid hv
    clear hv hB k1 HSL hbl hbw hI hBo hne
    gi_wp2_with fail
    refine ⟨by simp, .inl ⟨_, _, rfl, run_takeDeferred hK, ?_⟩⟩
    have hc := (World.cell?_of_block (a := ⟨w.heap.size + 1, 0, none⟩) (w' := W.putObj D (.deferred none)) (World.putObj_heap_other (by show w.heap.size + 1 ≠ D; omega))).trans hr
    refine ⟨.bool false, ?_, _, ⟨fun h => by simp at h, fun h => absurd h HV.out⟩, rfl, HB.out.trans (below_putObj _ _ _ _ (by omega))⟩
    rw [results_cell1 rfl]
    go_simp
end Go.Proofs.YteoeefmdfalnjaaGreatDoor
namespace Go.Proofs.YteoeefmdfalnjaaGreatDoor
open Go Go.RowKit Go.Shelf
attribute [local go_sem] Oper.semAt_some

set_option maxRecDepth 100000 in
set_option maxHeartbeats 2000000 in
theorem genI_any {C : Nat → Prop} {t : Tm} {v : Value} {w : World} (n : Int) (hka : KA w) (h : TM w C t v) (hn : t.wt ≤ 2097152) :
    Calls Tryz.prog 13 #[v, .int .i64 n] w (Tells ((t.IsT ∧ t.lvOk n) ∧ t.made n) w) := by
  have hnt : t.nodes ≤ 2097153 := by have := t.nodes_wt; omega
  have HKA := Lib.hid (fun (w' : World) (hb : Below w.heap.size w w') => hka.below hb)
  have HWT := Lib.hid hn
  clear hka hn
  obtain ⟨tp, tc, rp, rc, p, c, rfl, hT⟩ := h
  have HT := Lib.hid (hT.mono (C' := (· < w.heap.size)) (fun _ _ h => h))
  clear hT
  refine (callsIn_wide (n := 3)).1 ?_
  refine callsIn_of_wp_marks Tryz.func13 rfl trivial ?_ rfl
  simp only [Tryz.ntmps13, List.size_toArray, List.length_cons, List.length_nil, Nat.reduceAdd, Nat.reduceSub, Array.replicate_succ, Array.replicate_zero, List.push_toArray, List.append_toArray, List.nil_append, List.cons_append]
  gi_wp2_with fail
  obtain ⟨w0, hw0, hs0, hb0, hk0, hk1⟩ := box_new2 w (tmC t tp tc rp rc p c) #[.bool false] 29 4
  rw [hw0]
  refine ⟨trivial, ?_⟩
  refine (callsIn_wide.2 (levI_any n (HKA.out _ hb0) ⟨_, _, _, _, _, _, rfl, HT.out.stays (.of_below hb0)⟩ HWT.out)).mono ?_
  rintro e w1 ⟨r, hr, rfl, hb1⟩
  have hk01 := (hb1.block _ (by omega)).trans hk0
  have hk11 := (hb1.block _ (by omega)).trans hk1
  have hb01 : Below w.heap.size w w1 := hb0.trans (hb1.mono hb0.size)
  have hs1 := hb1.size
  have HR := Lib.hid hr
  clear hr hb1
  obtain ⟨y0, y1, y2, y3, y4, y5, y6, y7, y8⟩ := Bx9.of hk01
  have q0 := cell_of_blk hk11 0
  have qz := unfrozen_of_blk hk11 0
  simp only [List.getElem?_toArray, List.getElem?_cons_zero] at q0
  cases r with
  | false =>
    have hcc := World.cell?_setCell_same' w1 ⟨w.heap.size + 1, 0, none⟩ (.bool false) (by rw [q0]; rfl)
    have HB01 := Lib.hid hb01
    clear hk0 hk1 hb0 hw0 hk01 hk11 hb01
    gi_wp2_with fail
    refine ⟨.bool false, ?_, false, by simp only [Bool.false_eq_true, false_iff]; exact fun h => (by have := HR.out.2 h.1; cases this), rfl, HB01.out.setCell (p := ⟨w.heap.size + 1, 0, none⟩) (by show w.heap.size ≤ w.heap.size + 1; omega) _⟩
    rw [results_cell1 rfl]
    go_simp
  | true =>
  have HLV := Lib.hid ((levels_walk t n).1 (HR.out.1 (by trivial)))
  have HIS := Lib.hid (HR.out.1 (by trivial))
  clear qz q0
  gi_wp2_with fail
  refine ⟨trivial, ?_⟩
  refine (callsIn_wide.2 (nwl_any t tp tc rp rc p c n w1)).mono ?_
  rintro e wl ⟨Bn, Be, rfl, hI, hbw⟩
  have hsz := hbw.size
  have hbl : Below w.heap.size w wl := hb01.trans (hbw.mono hb01.size)
  have k1 : wl.heap[w.heap.size + 1]? = some (.cells #[.bool false] 4 (0, 0)) := (hbw.block _ (by omega)).trans hk11
  clear y0 y1 y2 y3 y4 y5 y6 y7 y8 hk01 hk11
  have HSL : TM' wl (· < w.heap.size) t tp tc rp rc p c := HT.out.stays (.of_below hbl)
  clear hk0 hk1 hb0 hw0
  gi_wp2_with fail
  refine rangeD_law (F := Fence.wide) (n := 3) rfl (by omega) (gf := 113) (lb := #[.pointer (some ⟨Bn, 0, none⟩), .pointer (some ⟨Be, 0, none⟩)]) rfl trivial (enters_of Tryz.func113 (by kernel_rfl) rfl)
    (B0 := fun b => b = w.heap.size + 1) (levels_seq hI HSL hnt (Below.refl _ _) (fun b h => by omega)) (fun _ => rfl) (fun b h h2 => by omega) (fun b h => by omega) (fun b h => by omega)
    (fun pre B N W => (∀ z, B z ↔ z = w.heap.size + 1) ∧ (∀ z, ¬ N z) ∧ W.heap[w.heap.size + 1]? = some (.cells #[.bool false] 4 (0, 0)) ∧ (∀ e ∈ pre, ¬ (e.1.kind = 11 ∧ e.2 = 1)) ∧ Below w.heap.size w W)
    (fun j pre B N W => (∀ z, B z ↔ z = w.heap.size + 1) ∧ j = .ret ∧ W.cell? ⟨w.heap.size + 1, 0, none⟩ = some (.bool false) ∧ ¬ ((t.IsT ∧ t.lvOk n) ∧ t.made n) ∧ Below w.heap.size w W)
    (fun pre B N A A' h hk => ⟨h.1, h.2.1, (hk.1.block _ (by omega)).trans h.2.2.1, h.2.2.2.1, h.2.2.2.2.trans (hk.1.mono (by omega))⟩)
    (fun j pre B N A A' h hk => ⟨h.1, h.2.1, (hk.1.cell (by show w.heap.size + 1 < _; omega)).trans h.2.2.1, h.2.2.2.1, h.2.2.2.2.trans (hk.1.mono (by omega))⟩)
    (fun x Y A A' l r hl hg hr hA => goodL_loop hg hA (by omega)) (fun pre B N A h z hz => by rw [(h.1 z).1 hz]; exact (Array.getElem?_eq_some_iff.1 h.2.2.1).1) (fun x Y A z hg hz => absurd hz (hg.2 z)) ⟨fun _ => Iff.rfl, fun _ h => h, k1, (fun e he => absurd he (List.not_mem_nil)), hbl⟩
    (fun x s a' W => ∃ bx, W.heap[bx]? = some (.cells x.2.cells 29 (0, 0)) ∧ a' = { tmps := #[tmV t tp tc rp rc p c, .int .i64 n, .pointer (some ⟨w.heap.size, 0, none⟩), undef, .pointer (some ⟨w.heap.size + 1, 0, none⟩), .pointer (some ⟨bx, 0, none⟩), .int .i64 x.1.2,
      tmV t tp tc rp rc p c, .int .i64 n, .bool true, .bool false, tmV t tp tc rp rc p c, .int .i64 n, iterL Bn Be, x.2, .int .i64 x.1.2, undef, undef, undef, undef, undef, undef, undef, undef, undef], defers := [] })
    (fun x s a' W l r o h hl => by
      obtain ⟨bx, h2, h3⟩ := h
      exact ⟨bx, (World.putObj_heap_other (fun e => by rw [e, hl] at h2; cases h2)).trans h2, h3⟩) ?assign ?body ?done ?stop
  case assign =>
    rintro l ⟨⟨x, lv⟩, v⟩ Y W K hG hK
    obtain ⟨tp', tc', rp', rc', p', c', rfl, hG'⟩ := (show TM W _ x v from hG.1)
    have HK := Lib.hid hK
    clear hK
    gi_wp2
    exact HK.out _ _ ((Below.refl _ _).alloc (Nat.le_refl _) _) ⟨W.heap.size, blk_new _ _, by simp⟩
  case body =>
    rintro l pre ⟨⟨x, lv⟩, v⟩ s a' Y B N W ⟨hBo, hNo, hr, hso, hB⟩ hpre hG hYB hs ⟨bx, hbx, rfl⟩ hlp hBl
    have hpre : pre ++ [(x, lv)] <+: walkL t n := hpre
    have hbx : W.heap[bx]? = some (.cells v.cells 29 (0, 0)) := hbx
    obtain ⟨tp', tc', rp', rc', p', c', rfl, hG'⟩ := (show TM W _ x v from hG.1)
    simp only [Value.cells] at hbx
    obtain ⟨x0, x1, x2, x3, x4, x5, x6, x7, x8⟩ := Bx9.of hbx
    have hlv : 0 ≤ lv ∧ lv ≤ 2 := (HLV.out (x, lv) (hpre.subset (by simp))).1
    have HR1 := Lib.hid hr
    have HB1 := Lib.hid hB
    have HSO := Lib.hid hso
    have HP := Lib.hid hpre
    have HBO := Lib.hid hBo
    have HFIN := Lib.hid (fun (W' : World) (hb : Below W.heap.size W W') => show W'.heap[w.heap.size + 1]? = some (.cells #[.bool false] 4 (0, 0)) from (hb.block _ (Array.getElem?_eq_some_iff.1 hr).1).trans hr)
    have hstop : (x.kind = 11 ∧ lv = 1) → ∀ (W' : World) (q : World), Below W.heap.size W W' → q = W'.setCell ⟨w.heap.size + 1, 0, none⟩ (.bool false) → ∃ B' N' : Nat → Prop, Grew B B' W.heap.size q.heap.size ∧ (∀ z, N' z → N z ∨ Y z) ∧ Holds B W q ∧ (∀ z, B' z ↔ z = w.heap.size + 1) ∧ q.cell? ⟨w.heap.size + 1, 0, none⟩ = some (.bool false) ∧ ¬ ((t.IsT ∧ t.lvOk n) ∧ t.made n) ∧ Below w.heap.size w q := by
      rintro hno W' q hb rfl
      have hr2 := HFIN.out W' hb
      have r2 := cell_of_blk hr2 0
      simp only [List.getElem?_toArray, List.getElem?_cons_zero] at r2
      have hlt := (Array.getElem?_eq_some_iff.1 hr2).1
      refine ⟨B, fun _ => False, Grew.refl (fun b hb' => ?_), fun z hz => hz.elim, Holds.setCell (.of_below hb) ⟨w.heap.size + 1, 0, none⟩ ((hBo _).2 rfl) _, hBo, World.cell?_setCell_same' W' ⟨w.heap.size + 1, 0, none⟩ (.bool false) (by rw [r2]; rfl), (fun hh => (made_walk t n).1 hh.2 (x, lv) (hpre.subset (by simp)) hno), (hB.trans (hb.mono hB.size)).setCell (p := ⟨w.heap.size + 1, 0, none⟩) (by show w.heap.size ≤ w.heap.size + 1; omega) _⟩
      rw [(hBo b).1 hb']
      simpa [World.setCell] using hlt
    have hgo : ¬ (x.kind = 11 ∧ lv = 1) → ∀ (W' : World), Below W.heap.size W W' → ∃ B' N' : Nat → Prop, Grew B B' W.heap.size W'.heap.size ∧ (∀ z, N' z → N z ∨ Y z) ∧ Holds B W W' ∧ (∀ z, B' z ↔ z = w.heap.size + 1) ∧ (∀ z, ¬ N' z) ∧ W'.heap[w.heap.size + 1]? = some (.cells #[.bool false] 4 (0, 0)) ∧ (∀ e ∈ pre ++ [(x, lv)], ¬ (e.1.kind = 11 ∧ e.2 = 1)) ∧ Below w.heap.size w W' := by
      intro hx W' hb
      have hr2 := HFIN.out W' hb
      refine ⟨B, fun _ => False, Grew.refl (fun b hb' => ?_), fun z hz => hz.elim, .of_below hb, hBo, fun _ h => h, hr2, fun e he => ?_, hB.trans (hb.mono hB.size)⟩
      · rw [(hBo b).1 hb']
        exact (Array.getElem?_eq_some_iff.1 hr2).1
      · rcases List.mem_append.1 he with he | he
        · exact hso e he
        · simp only [List.mem_singleton] at he
          subst he
          exact hx
    have HSTOP := Lib.hid hstop
    have HGO := Lib.hid hgo
    have r2 := cell_of_blk hr 0
    have rz := unfrozen_of_blk hr 0
    simp only [List.getElem?_toArray, List.getElem?_cons_zero] at r2
    clear hso hpre hr hbx hB k1 hG' HSL hbl hbw hI hBo hNo hYB hs hlp hBl hG hstop hgo
    by_cases hk : x.kind = 11
    · have t1 : (x.kind == 11) = true := by simp [hk]
      have HK := Lib.hid hk
      have HNX := Lib.hid (show nextL x.kind lv = lv - 1 by
        unfold nextL
        rw [if_neg (by omega), if_pos hk]
        unfold wrap64
        omega)
      clear hk
      gi_wp2_with fail
      refine ⟨trivial, ?_⟩
      refine (CallsIn.inRound l (callsIn_wide.2 (nextI_any x tp' tc' rp' rc' p' c' lv W))).mono ?_
      rintro e W2 ⟨rfl, hb2⟩
      rw [HNX.out]
      have HB2 := Lib.hid hb2
      have hr2 := HFIN.out W2 hb2
      have r3 := cell_of_blk hr2 0
      have rz3 := unfrozen_of_blk hr2 0
      simp only [List.getElem?_toArray, List.getElem?_cons_zero] at r3
      clear hb2 x0 x1 x2 x3 x4 x5 x6 x7 x8 r2 rz hr2
      by_cases h1 : lv = 1
      · have t2 : (lv - 1 == 0) = true := by simp; omega
        have H1 := Lib.hid h1
        clear h1
        gi_wp2_with fail
        obtain ⟨B', N', h1, h2, h3, h4, h5, h6, h7⟩ := HSTOP.out ⟨HK.out, H1.out⟩ W2 _ HB2.out rfl
        exact ⟨B', N', h1, h2, h3, h4, rfl, h5, h6, h7⟩
      · have t2 : (lv - 1 == 0) = false := by simp; omega
        have H1 := Lib.hid h1
        clear h1
        gi_wp2_with fail
        exact HGO.out (fun h => H1.out h.2) W2 HB2.out
    · have t1 : (x.kind == 11) = false := by simp [hk]
      have HK := Lib.hid hk
      clear hk
      gi_wp2_with fail
      refine ⟨trivial, ?_⟩
      gi_wp2_with fail
      exact HGO.out (fun h => HK.out h.1) W (Below.refl _ _)
  case done =>
    rintro D B N W hD hne ⟨hBo, hNo, hr, hso, hB⟩ hK
    have r0 := cell_of_blk hr 0
    have rz := unfrozen_of_blk hr 0
    simp only [List.getElem?_toArray, List.getElem?_cons_zero] at r0
    have HV := Lib.hid (And.intro HIS.out ((made_walk t n).2 hso))
    have HB := Lib.hid hB
    have hK' : (W.setCell ⟨w.heap.size + 1, 0, none⟩ (.bool true)).heap[D]? = some (.deferred (some [])) := (Below.heap_setCell _ _ _ _ (by show D ≠ w.heap.size + 1; omega)).trans hK
    clear hso hB hr hK k1 HSL hbl hbw hI hBo hNo hne
    gi_wp2_with fail
    refine ⟨by simp, .inl ⟨_, _, rfl, run_takeDeferred hK', ?_⟩⟩
    have hc := (World.cell?_of_block (a := ⟨w.heap.size + 1, 0, none⟩) (w' := (W.setCell ⟨w.heap.size + 1, 0, none⟩ (.bool true)).putObj D (.deferred none)) (World.putObj_heap_other (by show w.heap.size + 1 ≠ D; omega))).trans (World.cell?_setCell_same' W ⟨w.heap.size + 1, 0, none⟩ (.bool true) (by rw [r0]; rfl))
    refine ⟨.bool true, ?_, _, ⟨fun _ => HV.out, fun _ => rfl⟩, rfl, (HB.out.setCell (p := ⟨w.heap.size + 1, 0, none⟩) (by show w.heap.size ≤ w.heap.size + 1; omega) _).trans (below_putObj _ _ _ _ (by omega))⟩
    rw [results_cell1 rfl]
    go_simp
  case stop =>
    rintro D c pre B N W hD hne hpre ⟨hBo, rfl, hr, hv, hB⟩ hK
    have HB := Lib.hid hB
    have HV := Lib.hid hv
    clear hv hB k1 HSL hbl hbw hI hBo hne
    gi_wp2_with fail
    refine ⟨by simp, .inl ⟨_, _, rfl, run_takeDeferred hK, ?_⟩⟩
    have hc := (World.cell?_of_block (a := ⟨w.heap.size + 1, 0, none⟩) (w' := W.putObj D (.deferred none)) (World.putObj_heap_other (by show w.heap.size + 1 ≠ D; omega))).trans hr
    refine ⟨.bool false, ?_, _, ⟨fun h => by simp at h, fun h => absurd h HV.out⟩, rfl, HB.out.trans (below_putObj _ _ _ _ (by omega))⟩
    rw [results_cell1 rfl]
    go_simp
end Go.Proofs.YteoeefmdfalnjaaGreatDoor
namespace Go.Proofs.YteoeefmdfalnjaaGreatDoor
open Go Go.RowKit

theorem keep18 {w W w1 : World} {p0 p1 p2 p3 p4 p5 p6 p7 p8 p9 p10 p11 p12 p13 p14 p15 p16 p17 : Addr} {v0 v1 v2 v3 v4 v5 v6 v7 v8 v9 v10 v11 v12 v13 v14 v15 v16 v17 : Value} (hb1 : Below W.heap.size W w1) (h : W.cell? p0 = some v0 ∧ W.cell? p1 = some v1 ∧ W.cell? p2 = some v2 ∧ W.cell? p3 = some v3 ∧ W.cell? p4 = some v4 ∧ W.cell? p5 = some v5 ∧ W.cell? p6 = some v6 ∧ W.cell? p7 = some v7 ∧ W.cell? p8 = some v8 ∧ W.cell? p9 = some v9 ∧ W.cell? p10 = some v10 ∧ W.cell? p11 = some v11 ∧ W.cell? p12 = some v12 ∧ W.cell? p13 = some v13 ∧ W.cell? p14 = some v14 ∧ W.cell? p15 = some v15 ∧ W.cell? p16 = some v16 ∧ W.cell? p17 = some v17 ∧ Below w.heap.size w W) : w1.cell? p0 = some v0 ∧ w1.cell? p1 = some v1 ∧ w1.cell? p2 = some v2 ∧ w1.cell? p3 = some v3 ∧ w1.cell? p4 = some v4 ∧ w1.cell? p5 = some v5 ∧ w1.cell? p6 = some v6 ∧ w1.cell? p7 = some v7 ∧ w1.cell? p8 = some v8 ∧ w1.cell? p9 = some v9 ∧ w1.cell? p10 = some v10 ∧ w1.cell? p11 = some v11 ∧ w1.cell? p12 = some v12 ∧ w1.cell? p13 = some v13 ∧ w1.cell? p14 = some v14 ∧ w1.cell? p15 = some v15 ∧ w1.cell? p16 = some v16 ∧ w1.cell? p17 = some v17 ∧ Below w.heap.size w w1 := by
  obtain ⟨h0, h1, h2, h3, h4, h5, h6, h7, h8, h9, h10, h11, h12, h13, h14, h15, h16, h17, hz⟩ := h
  exact ⟨keepN hb1 h0, keepN hb1 h1, keepN hb1 h2, keepN hb1 h3, keepN hb1 h4, keepN hb1 h5, keepN hb1 h6, keepN hb1 h7, keepN hb1 h8, keepN hb1 h9, keepN hb1 h10, keepN hb1 h11, keepN hb1 h12, keepN hb1 h13, keepN hb1 h14, keepN hb1 h15, keepN hb1 h16, keepN hb1 h17, hz.trans (hb1.mono hz.size)⟩

end Go.Proofs.YteoeefmdfalnjaaGreatDoor
