/-
  Several texts of the proof in one (each says below what it holds): LvJ LvK LvG ScopeA ScopeB NodesQ NodesR MapV.
-/
import Derived.Test.YtingnigiijdllaaDoorRs6
import Derived.Test.YtingnigiijdllaaDoorRs4
import Derived.Test.YtingnigiijdllaaDoorRs5
import Derived.Test.YtingnigiijdllaaDoorRs2
import Derived.Test.YtingnigiijdllaaDoorRs3
import Derived.Test.YtingnigiijdllaaDoorRs1
import Derived.Lib.SmallJoins
import Derived.RangeFuncNested
import Derived.RangeFuncBound
import Derived.RangeFuncCalls
import Derived.Shelf.Abstract
import Derived.IntWalk
import Derived.Shelf.RegionOpen
import Derived.WalkKit
import Derived.TacticsInMore
import Derived.LoopNIn
import Derived.LoopIn
import Derived.Sort.LoopGhostIn
import Derived.Maps.OwnOps
import Derived.Maps.OwnSet
import Derived.Maps.Views
import Derived.Below
set_option linter.unusedVariables false
set_option linter.unusedSimpArgs false
namespace Go.Proofs.YtingnigiijdllaaDoor
open Go Go.RowKit Go.Shelf
attribute [local go_sem] Oper.semAt_some

set_option maxRecDepth 100000 in
set_option maxHeartbeats 4000000 in
theorem levels_it (l Bn Be : Nat) (t : Tm) (tp : Option Addr) (tc : Nat) (rp : Option Addr) (rc : Nat) (p : Option Addr) (c : Nat) (n : Int) (C B0 : Nat → Prop) (W : World) (J Jx : List (Tm × Int) → (Nat → Prop) → (Nat → Prop) → World → Prop)
    (hBn : W.heap[Bn]? = some (.cells #[.int .i64 n] 3 (0, 0))) (hBe : W.heap[Be]? = some (.cells (tmC t tp tc rp rc p c) 35 (0, 0))) (hT : TM' W C t tp tc rp rc p c) (hn : t.nodes ≤ 2097153)
    (hC : ∀ b, C b → b < W.heap.size) (hCB : ∀ b, C b → ¬ B0 b) (hB0 : ∀ b, B0 b → b < W.heap.size)
    (hJ : ∀ pre B N A A', J pre B N A → Keep W.heap.size (fun z => B z ∨ N z) A A' → J pre B N A') (hJx : ∀ pre B N A A', Jx pre B N A → Keep W.heap.size (fun z => B z ∨ N z) A A' → Jx pre B N A')
    (hY : ∀ (pre : List (Tm × Int)) (x : (Tm × Int) × Value) (Y B N : Nat → Prop) (W1 : World), J pre B N W1 → pre ++ [keyL x] <+: walkL t n → GoodL C x Y W1 → (∀ z : Nat, Y z → ¬ B z) → YieldAt Fence.wide 1 Tryd.prog l (encL x) W1 fun e W' =>
      ∃ B' N', Grew B B' W1.heap.size W'.heap.size ∧ (∀ z, N' z → N z ∨ Y z) ∧ ((e = .returned (.bool true) ∧ J (pre ++ [keyL x]) B' N' W' ∧ Holds B W1 W') ∨ (e = .returned (.bool false) ∧ Jx (pre ++ [keyL x]) B' N' W' ∧ Holds B W1 W')))
    (h0 : J [] B0 (fun _ => False) W) :
    CallsIn Fence.wide 2 Tryd.prog 82 #[.func (.yield l) #[] #[], .pointer (some ⟨Bn, 0, none⟩), .pointer (some ⟨Be, 0, none⟩)] W fun e W' =>
      (∃ v, e = .returned v) ∧ ((∃ B' N', J (walkL t n) B' N' W') ∨ ∃ pre B' N', pre <+: walkL t n ∧ Jx pre B' N' W') := by
  have HT := Lib.hid hT
  have HY := Lib.hid hY
  have HJ := Lib.hid hJ
  have HJX := Lib.hid hJx
  have HJ0 := Lib.hid h0
  have HB0 := Lib.hid hB0
  have HC := Lib.hid hC
  have HCB := Lib.hid hCB
  have HN := Lib.hid hn
  have q0 := cell_of_blk hBn 0
  simp only [List.getElem?_toArray, List.getElem?_cons_zero] at q0
  have HBE := Lib.hid hBe
  clear hT hY hJ hJx h0 hB0 hC hCB hn hBn hBe
  refine callsIn_of_wp_marks Tryd.func82 rfl trivial ?_ rfl
  simp only [Tryd.ntmps82, List.size_toArray, List.length_cons, List.length_nil, Nat.reduceAdd, Nat.reduceSub, Array.replicate_succ, Array.replicate_zero, List.push_toArray, List.append_toArray, List.nil_append, List.cons_append]
  refine wpIn_wide.2 ?_
  have hbn := World.block_lt_of_cell? W _ q0
  have hbe := (Array.getElem?_eq_some_iff.1 HBE.out).1
  have hb1 : Below W.heap.size W (W.alloc (.cells #[.func (.yield l) #[] #[]] 48)) := al_below _ _
  have q1 := (hb1.cell hbn).trans q0
  have hb3 : Below W.heap.size W (((W.alloc (.cells #[.func (.yield l) #[] #[]] 48)).alloc (.cells #[.int .i64 n] 3)).alloc (.cells #[.slice (some ⟨W.heap.size + 1, 0, none⟩) 1 1] 88)) := (hb1.alloc (by simp) _).alloc (by simp; omega) _
  obtain ⟨e0, e1, e2, e3, e4, e5, e6, e7, e8⟩ := Bx9.of ((hb3.block _ hbe).trans HBE.out)
  have HB3 := Lib.hid hb3
  clear hb1 hb3 q0
  go_wp2_with fail
  obtain ⟨w0, hw0, hs0, hb0, k0, k1, k2⟩ := box_new3 W #[.func (.yield l) #[] #[]] #[.int .i64 n] #[.slice (some ⟨W.heap.size + 1, 0, none⟩) 1 1] 48 3 88
  rw [hw0]
  refine (tnM_any (HT.out.stays (.of_below hb0))).mono ?_
  rintro e wc ⟨Bt, Bp, rfl, hit, hbc, hBt, hBp⟩
  have sc := hbc.size
  have hbW : Below W.heap.size W wc := hb0.trans (hbc.mono hb0.size)
  have k0c := (hbc.block _ (by omega)).trans k0
  have k1c := (hbc.block _ (by omega)).trans k1
  have k2c := (hbc.block _ (by omega)).trans k2
  have HIT := Lib.hid hit
  have HBW := Lib.hid hbW
  have HK := Lib.hid (And.intro k0c (And.intro k1c k2c))
  clear hw0 hit hbc k0 k1 k2 k0c k1c k2c hb0 hbW q1 e0 e1 e2 e3 e4 e5 e6 e7 e8 hbn hbe HB3 HBE
  go_wp2_with fail
  refine (wpIn_wide (n := 2)).1 ?_
  refine rangeD_law (F := Fence.wide) (n := 2) rfl (by omega) (gf := 97) (lb := #[.pointer (some ⟨Bt, 0, none⟩), .pointer (some ⟨Bp, 0, none⟩)]) rfl trivial (enters_of Tryd.func97 (by kernel_rfl) rfl)
    (B0 := fun z => (z = W.heap.size + 2 ∨ z = W.heap.size + 1) ∨ B0 z)
    (nodesD_seq (C := fun z => C z ∨ z = Bp) (Ct := C) HIT.out (HT.out.stays (.of_below HBW.out)) HN.out (Below.refl _ _) (fun b hb => ?hC) (Or.inr rfl) (fun z hz => Or.inl hz)) (fun _ => rfl) (fun b hb => ?hCB) (fun b hb => ?hC2) (fun b hb => ?hB0)
    (fun pre B N Wx => ∃ (Bo No : Nat → Prop) (g cap : Nat), LvI wc.heap.size (fun z => C z ∨ z = Bp) W l (W.heap.size + 2) n J pre B N Wx Bo No g cap)
    (fun c pre B N Wx => c = .ret ∧ ∃ (Bo No : Nat → Prop) (q : List (Tm × Int)), q <+: walkL t n ∧ (∀ z, Bo z → B z) ∧ (∀ z, ¬ No z) ∧ Jx q Bo No Wx)
    ?hI ?hIx ?hG (fun pre B N A h z hz => by obtain ⟨Bo, No, g, cap, h⟩ := h; exact (h.lt z hz).1) (fun x Y A z hg hz => absurd hz (hg.2 z)) ?h0
    (fun x s a' Wx => ∃ b5 : Nat, s ≤ b5 ∧ Wx.heap[b5]? = some (.cells x.2.1.cells 35 (0, 0)) ∧ a' = { tmps := #[.func (.yield l) #[] #[], .pointer (some ⟨Bn, 0, none⟩), .pointer (some ⟨Be, 0, none⟩), .pointer (some ⟨W.heap.size, 0, none⟩), .pointer (some ⟨W.heap.size + 2, 0, none⟩), .pointer (some ⟨b5, 0, none⟩), .int .i64 (x.2.2 : Nat), undef, .int .i64 n, .slice (some ⟨W.heap.size + 1, 0, none⟩) 1 1, tmV t tp tc rp rc p c, iterM Bt Bp, x.2.1, .int .i64 (x.2.2 : Nat), undef, undef, undef, undef, undef, undef, undef, undef, undef, undef, undef, undef, undef, undef, undef, undef, undef, undef], defers := [] })
    ?hAx ?assign ?body ?done ?stop
  case hC =>
    rcases hb with hb | rfl
    · exact Nat.lt_of_lt_of_le (HC.out b hb) HBW.out.size
    · exact (Array.getElem?_eq_some_iff.1 HIT.out.bp).1
  case hC2 =>
    rcases hb with hb | rfl
    · exact Nat.lt_of_lt_of_le (HC.out b hb) HBW.out.size
    · exact (Array.getElem?_eq_some_iff.1 HIT.out.bp).1
  case hCB =>
    rintro ((rfl | rfl) | h)
    · rcases hb with hb | hb
      · have := HC.out _ hb; omega
      · omega
    · rcases hb with hb | hb
      · have := HC.out _ hb; omega
      · omega
    · rcases hb with hb | hb
      · exact HCB.out b hb h
      · have := HB0.out b h; omega
  case hB0 =>
    rcases hb with (rfl | rfl) | h
    · omega
    · omega
    · have := HB0.out b h; omega
  case hI =>
    rintro pre B N A A' ⟨Bo, No, g, cap, h⟩ hk
    exact ⟨Bo, No, g, cap, h.keep (by omega) HJ.out hk⟩
  case hIx =>
    rintro c pre B N A A' ⟨e, Bo, No, q, h1, h2, h3, h4⟩ hk
    exact ⟨e, Bo, No, q, h1, h2, h3, HJX.out _ _ _ _ _ h4 (hk.mono (by omega) (fun b hb => hb.elim (fun h => Or.inl (h2 b h)) (fun h => absurd h (h3 b))))⟩
  case hG =>
    intro x Y A A' l' r hl hg hr hA
    exact goodND_loop hg hA (fun h => by have := HC.out _ h; omega)
  case h0 =>
    obtain ⟨k0, k1, k2⟩ := HK.out
    refine ⟨B0, fun _ => False, W.heap.size + 1, 1, fun _ => Iff.rfl, ⟨fun h => ?_, fun h => ?_, by omega, by omega, by omega⟩, fun z hz => ?_, fun z hz => hz, fun z hz => hz, k2, ?_, HJ.out _ _ _ _ _ HJ0.out (.of_below (Nat.le_refl _) HBW.out), k0, Nat.le_refl _, fun h => ?_, fun h => ?_⟩
    · have := HB0.out _ h; omega
    · have := HB0.out _ h; omega
    · rcases hz with (rfl | rfl) | h
      · omega
      · omega
      · have := HB0.out z h; omega
    · exact ⟨rfl, Or.inr ⟨W.heap.size + 1, 1, _, rfl, Nat.le_refl _, k1, Nat.le_refl _, by unfold maxLen; omega, rfl, rfl⟩⟩
    · rcases h with h | h
      · have := HC.out _ h; omega
      · omega
    · rcases h with h | h
      · have := HC.out _ h; omega
      · omega
  case hAx =>
    rintro x s a' Wx l' r o ⟨b5, hs, h, e⟩ hl
    exact ⟨b5, hs, (World.putObj_heap_other (by rintro rfl; rw [hl] at h; cases h)).trans h, e⟩
  case assign =>
    rintro l' ⟨xt, v, d⟩ Y Wx K hg hK
    obtain ⟨tp', tc', rp', rc', p', c', rfl, hG'⟩ := (show TM Wx _ xt v from hg.1)
    have HK := Lib.hid hK
    clear hK
    gi_wp2
    exact HK.out _ _ ((Below.refl _ Wx).alloc (Nat.le_refl _) _) ⟨Wx.heap.size, Nat.le_refl _, blk_new _ _, by simp⟩
  case done =>
    rintro D B N Wx hD hne ⟨Bo, No, g, cap, hI⟩ hK
    gi_wp2
    refine ⟨by simp, .inl ⟨_, _, rfl, run_takeDeferred hK, ?_⟩⟩
    refine ⟨_, results_none rfl _ _ _, ⟨_, rfl⟩, .inl ⟨Bo, No, ?_⟩⟩
    rw [← lvs_all]
    exact HJ.out _ _ _ _ _ hI.j ⟨below_putObj _ _ _ _ (by omega), fun z hz _ => World.putObj_heap_other (hz.elim (fun h => hne z (Or.inl ((hI.split z).2 (Or.inr h)))) (fun h => absurd h (hI.no z)))⟩
  case stop =>
    rintro D c pre B N Wx hD hne hpre ⟨rfl, Bo, No, q, h1, h2, h3, h4⟩ hK
    gi_wp2
    refine ⟨by simp, .inl ⟨_, _, rfl, run_takeDeferred hK, ?_⟩⟩
    refine ⟨_, results_none rfl _ _ _, ⟨_, rfl⟩, .inr ⟨q, Bo, No, h1, ?_⟩⟩
    exact HJX.out _ _ _ _ _ h4 ⟨below_putObj _ _ _ _ (by omega), fun z hz _ => World.putObj_heap_other (hz.elim (fun h => hne z (Or.inl (h2 z h))) (fun h => absurd h (h3 z)))⟩
  case body =>
    rintro l' pre ⟨xt, v, d⟩ s a' Y B N Wx ⟨Bo, No, g, cap, hI⟩ hpre hg hYB hs ⟨b5, hbs, hb5, rfl⟩ ⟨r, hl⟩ hBl
    have hpre : pre ++ [(xt, d)] <+: walkM t 1 := hpre
    have hb5 : Wx.heap[b5]? = some (.cells v.cells 35 (0, 0)) := hb5
    obtain ⟨tp', tc', rp', rc', p', c', rfl, hG'⟩ := (show TM Wx _ xt v from hg.1)
    simp only [Value.cells] at hb5
    have hok : 1 ≤ d ∧ d ≤ (stkL [n] pre).length := okL_pre (l := n) hpre
    have hdm : d ≤ 2097153 := depth_pre (t := t) (x := xt) (d := d) (hpre.subset (by simp)) HN.out
    obtain ⟨d0, rfl⟩ : ∃ d0, d = d0 + 1 := ⟨d - 1, by omega⟩
    obtain ⟨st, hst⟩ : ∃ st, st = stkL [n] pre := ⟨_, rfl⟩
    have hcell := hI.cell
    have hown := hI.own
    have hlvp := lvs_pre (l := n) hpre
    rw [lvs_snoc] at hlvp
    rw [← hst] at hcell hown hok hlvp
    rw [Nat.add_sub_cancel] at hlvp
    obtain ⟨lv, hlv⟩ : ∃ lv, lv = st.getD d0 0 := ⟨_, rfl⟩
    rw [← hlv] at hlvp
    obtain ⟨hcap1, hcap2, hg1, hg2⟩ := row_cap hown
    have f0 := cell_of_blk hcell 0
    simp only [List.getElem?_toArray, List.getElem?_cons_zero] at f0
    have f1 : Wx.cell? ⟨g, d0, none⟩ = some (.int .i64 lv) := by
      rw [hown.cellAt d0 (by omega), hlv]
      have hlt : d0 < st.length := by omega
      simp [lvV, List.getD_eq_getElem?_getD, List.getElem?_eq_getElem hlt]
    have yb0 := cell_of_blk hI.yb 0
    simp only [List.getElem?_toArray, List.getElem?_cons_zero] at yb0
    obtain ⟨x0, x1, x2, x3, x4, x5, x6, x7, x8⟩ := Bx9.of hb5
    obtain ⟨fn, tmps, assign, body, hy, hR⟩ := YieldAt.any' (b := 0) (HY.out (lvs pre [n]) ((xt, lv), tmV xt tp' tc' rp' rc' p' c') (fun _ => False) Bo No Wx hI.j hlvp ⟨ntM_mk hG', fun z hz => hz⟩ (fun _ h => h.elim)) l'
    have hnb5 : ¬ B b5 := fun h => by have := hs b5 h; omega
    have HI := Lib.hid hI
    have HPRE := Lib.hid hpre
    have HLVP := Lib.hid hlvp
    have HOWN := Lib.hid hown
    have HST := Lib.hid hst
    have HLV := Lib.hid hlv
    have HR := Lib.hid hR
    have HB5 := Lib.hid hb5
    have HNB5 := Lib.hid hnb5
    have HCELL := Lib.hid hcell
    have HD := Lib.hid hok
    have i0' : (0 : Int) ≤ (d0 : Int) := Int.natCast_nonneg _
    have i1' : (d0 : Int) < (st.length : Int) := by omega
    have hdm' : d0 + 1 ≤ 2097153 := hdm
    unfold maxLen at hcap2
    clear hI hpre hlvp hown hst hlv hR hb5 hnb5 hcell hok hdm hg hYB hs hbs hl hBl hG'
    simp only [encL] at hy
    rw [show ((d0 + 1 : Nat) : Int) = (d0 : Int) + 1 from rfl]
    gi_wp2_with fail
    refine ⟨rfl, ?_⟩
    refine HR.out.mono ?_
    rintro e W3 ⟨Bo', No', hgr, hno, ⟨rfl, hJ3, hH3⟩ | ⟨rfl, hJx3, hH3⟩⟩
    · have hI := HI.out
      have hk3 : ∀ z, ¬ Bo z → z < Wx.heap.size → W3.heap[z]? = Wx.heap[z]? := fun z h1 h2 => hH3.2 z h2 h1
      have hlbc := (hI.lt _ ((hI.split _).2 (Or.inl (Or.inl rfl)))).1
      have hcell3 := (hk3 _ hI.apart.1 hlbc).trans HCELL.out
      have hown3 := row_of_block HOWN.out (hk3 g hI.apart.2.1 hg2)
      have hb53 := (hk3 b5 (fun h => HNB5.out ((hI.split b5).2 (Or.inr h))) (Array.getElem?_eq_some_iff.1 HB5.out).1).trans HB5.out
      have f0' := cell_of_blk hcell3 0
      have fz := unfrozen_of_blk hcell3 0
      simp only [List.getElem?_toArray, List.getElem?_cons_zero] at f0'
      obtain ⟨y0, y1, y2, y3, y4, y5, y6, y7, y8⟩ := Bx9.of hb53
      have HG := Lib.hid (And.intro hgr (And.intro hno (And.intro hJ3 hH3)))
      have HOWN3 := Lib.hid hown3
      obtain ⟨i0, hi, hz0, hz1, hz2⟩ := info_parts infoI64
      have HLB := Lib.hid (show W.heap.size + 2 < W3.drew.heap.size from Nat.lt_of_lt_of_le hlbc hH3.1)
      have HGB := Lib.hid (show ¬ g = W.heap.size + 2 from hI.apart.2.2.1)
      have HCX := Lib.hid (show ∀ z, (C z ∨ z = Bp) → z < wc.heap.size from fun z hz => hz.elim (fun h => Nat.lt_of_lt_of_le (HC.out z h) HBW.out.size) (fun h => h ▸ (Array.getElem?_eq_some_iff.1 HIT.out.bp).1))
      have HCELL3 := Lib.hid hcell3
      have HTAKE := Lib.hid (row_take hown3 (m := d0 + 1) (by omega))
      have hfn : ∀ k, Fence.wide.fn k := fun _ => trivial
      have hfo : Tryd.prog.follows .mixedOrders = true := by kernel_rfl
      clear hI hk3 hcell3 hown3 hb53 hgr hno hJ3 hH3 hy x0 x1 x2 x3 x4 x5 x6 x7 x8 f0 f1 yb0
      gi_wp2_with fail
      refine wpIn_region_round hfo (by kernel_rfl) ?_
      refine wpAnyIn_take (i := 1) (v := ?_) rfl rfl (by kernel_rfl) (by kernel_rfl) (by kernel_rfl) (fun _ _ _ h => h) ⟨Or.inl ⟨by rfl, ?_⟩, fun _ => rfl⟩ ?_
      rotate_left
      · intro w
        go_simp
        first
          | with_reducible rfl
          | (rw [if_pos ⟨by omega, by omega⟩]; done)
      refine wpAnyIn_take (i := 4) (v := ?_) rfl rfl (by kernel_rfl) (by kernel_rfl) (by kernel_rfl) (fun _ _ _ h => h) ⟨Or.inl ⟨by rfl, ?_⟩, fun _ => rfl⟩ ?_
      rotate_left
      · intro w
        go_simp
        first
          | with_reducible rfl
          | (rw [if_pos ⟨by omega, by omega⟩]; done)
      refine wpAnyIn_ready (rs := [0, 3]) (by kernel_rfl) (by simp) ?_
      refine AllReadyIn.cons rfl (fun K hK => ?_) ?_
      · go_simp
        refine hK _ _ ?_
        clear hK K
        refine wpAnyIn_take (i := 2) (v := ?_) rfl rfl (by kernel_rfl) (by kernel_rfl) (by kernel_rfl) (fun _ _ _ h => h) ⟨Or.inl ⟨by rfl, ?_⟩, fun _ => rfl⟩ ?_
        rotate_left
        · intro w
          go_simp
          first
            | with_reducible rfl
            | (rw [if_pos ⟨by omega, by omega⟩]; done)
        refine wpAnyIn_ready (rs := [3]) (by kernel_rfl) (by simp) ?_
        refine AllReadyIn.cons rfl (fun K hK => ?_) AllReadyIn.nil
        go_simp
        refine hK _ _ ?_
        clear hK K
        refine wpAnyIn_ready (rs := [5]) (by kernel_rfl) (by simp) ?_
        refine AllReadyIn.cons rfl (fun K hK => ?_) AllReadyIn.nil
        go_simp
        refine ⟨rfl, ?_⟩
        refine (callsIn_wide.2 (nextI_any xt tp' tc' rp' rc' p' c' lv _)).mono ?_
        rintro e w1 ⟨rfl, hb1⟩
        refine hK _ _ ?_
        clear hK K
        have hcw := (hb1.block _ HLB.out).trans HCELL3.out
        have f2 := cell_of_blk hcw 0
        have f3 := cell_of_blk (((al_below w1 (.cells #[.int .i64 (nextL xt.kind lv)] 3)).block _ (Nat.lt_of_lt_of_le HLB.out hb1.size)).trans hcw) 0
        simp only [List.getElem?_toArray, List.getElem?_cons_zero] at f2 f3
        clear hcw
        refine wpAnyIn_ready (rs := [6]) (by kernel_rfl) (by simp) ?_
        refine AllReadyIn.cons rfl (fun K hK => ?_) AllReadyIn.nil
        go_simp
        refine hK _ _ ?_
        clear hK K
        refine wpAnyIn_ready (rs := [7]) (by kernel_rfl) (by simp) ?_
        refine AllReadyIn.cons rfl (fun K hK => ?_) AllReadyIn.nil
        refine stepIn_app1 (w0 := w1) (base := W.heap.size + 1) (v := .slice (some ⟨g, 0, none⟩) (d0 + 1) cap) (n := d0 + 1) (xs := (lvV st).take ((d0 + 1) * 1)) (cs := [.int .i64 (nextL xt.kind lv)]) rfl (.tmp 26) (.tmp 30) rfl Tryd.underlying88 hi hz0 hz1 hz2 rfl (by decide) rfl (row_below HTAKE.out ((Below.refl W3.heap.size W3).drew.trans hb1)) _ rfl (by simp) rfl (fun u hu => by simp at hu; subst hu; rfl) (by unfold maxLen; omega) (by omega) (by have h1 := hb1.size; have h2 := HLB.out; omega) ?_
        intro w' g2 cap2 hA
        have hcw := ((hA.kept (W.heap.size + 2) (Nat.lt_of_lt_of_le HLB.out hb1.size) (by simp only [Value.ownBlock, ne_eq, Option.some.injEq]; exact HGB.out)).1.trans (hb1.block _ HLB.out)).trans HCELL3.out
        have f4 := cell_of_blk hcw 0
        have z4 := unfrozen_of_blk hcw 0
        simp only [List.getElem?_toArray, List.getElem?_cons_zero] at f4
        clear hcw
        refine hK _ _ ?_
        clear hK K
        refine wpAnyIn_ready (rs := [8]) (by kernel_rfl) (by simp) ?_
        refine AllReadyIn.cons rfl (fun K hK => ?_) AllReadyIn.nil
        go_simp
        refine hK _ _ ?_
        clear hK K
        refine wpAnyIn_done (by kernel_rfl) ?_ _
        gi_wp2_with fail
        exact LvI.step HI.out (by omega) HCX.out HST.out HD.out.2 HLV.out HJ.out HG.out.1 HG.out.2.2.2 HG.out.2.1 HG.out.2.2.1 ((Below.refl W3.heap.size W3).drew.trans hb1) hA
      refine AllReadyIn.cons rfl (fun K hK => ?_) AllReadyIn.nil
      go_simp
      refine hK _ _ ?_
      clear hK K
      refine wpAnyIn_ready (rs := [0, 5]) (by kernel_rfl) (by simp) ?_
      refine AllReadyIn.cons rfl (fun K hK => ?_) ?_
      · go_simp
        refine hK _ _ ?_
        clear hK K
        refine wpAnyIn_take (i := 2) (v := ?_) rfl rfl (by kernel_rfl) (by kernel_rfl) (by kernel_rfl) (fun _ _ _ h => h) ⟨Or.inl ⟨by rfl, ?_⟩, fun _ => rfl⟩ ?_
        rotate_left
        · intro w
          go_simp
          first
            | with_reducible rfl
            | (rw [if_pos ⟨by omega, by omega⟩]; done)
        refine wpAnyIn_ready (rs := [5]) (by kernel_rfl) (by simp) ?_
        refine AllReadyIn.cons rfl (fun K hK => ?_) AllReadyIn.nil
        go_simp
        refine ⟨rfl, ?_⟩
        refine (callsIn_wide.2 (nextI_any xt tp' tc' rp' rc' p' c' lv _)).mono ?_
        rintro e w1 ⟨rfl, hb1⟩
        refine hK _ _ ?_
        clear hK K
        have hcw := (hb1.block _ HLB.out).trans HCELL3.out
        have f2 := cell_of_blk hcw 0
        have f3 := cell_of_blk (((al_below w1 (.cells #[.int .i64 (nextL xt.kind lv)] 3)).block _ (Nat.lt_of_lt_of_le HLB.out hb1.size)).trans hcw) 0
        simp only [List.getElem?_toArray, List.getElem?_cons_zero] at f2 f3
        clear hcw
        refine wpAnyIn_ready (rs := [6]) (by kernel_rfl) (by simp) ?_
        refine AllReadyIn.cons rfl (fun K hK => ?_) AllReadyIn.nil
        go_simp
        refine hK _ _ ?_
        clear hK K
        refine wpAnyIn_ready (rs := [7]) (by kernel_rfl) (by simp) ?_
        refine AllReadyIn.cons rfl (fun K hK => ?_) AllReadyIn.nil
        refine stepIn_app1 (w0 := w1) (base := W.heap.size + 1) (v := .slice (some ⟨g, 0, none⟩) (d0 + 1) cap) (n := d0 + 1) (xs := (lvV st).take ((d0 + 1) * 1)) (cs := [.int .i64 (nextL xt.kind lv)]) rfl (.tmp 26) (.tmp 30) rfl Tryd.underlying88 hi hz0 hz1 hz2 rfl (by decide) rfl (row_below HTAKE.out ((Below.refl W3.heap.size W3).drew.trans hb1)) _ rfl (by simp) rfl (fun u hu => by simp at hu; subst hu; rfl) (by unfold maxLen; omega) (by omega) (by have h1 := hb1.size; have h2 := HLB.out; omega) ?_
        intro w' g2 cap2 hA
        have hcw := ((hA.kept (W.heap.size + 2) (Nat.lt_of_lt_of_le HLB.out hb1.size) (by simp only [Value.ownBlock, ne_eq, Option.some.injEq]; exact HGB.out)).1.trans (hb1.block _ HLB.out)).trans HCELL3.out
        have f4 := cell_of_blk hcw 0
        have z4 := unfrozen_of_blk hcw 0
        simp only [List.getElem?_toArray, List.getElem?_cons_zero] at f4
        clear hcw
        refine hK _ _ ?_
        clear hK K
        refine wpAnyIn_ready (rs := [8]) (by kernel_rfl) (by simp) ?_
        refine AllReadyIn.cons rfl (fun K hK => ?_) AllReadyIn.nil
        go_simp
        refine hK _ _ ?_
        clear hK K
        refine wpAnyIn_done (by kernel_rfl) ?_ _
        gi_wp2_with fail
        exact LvI.step HI.out (by omega) HCX.out HST.out HD.out.2 HLV.out HJ.out HG.out.1 HG.out.2.2.2 HG.out.2.1 HG.out.2.2.1 ((Below.refl W3.heap.size W3).drew.trans hb1) hA
      refine AllReadyIn.cons rfl (fun K hK => ?_) AllReadyIn.nil
      go_simp
      refine ⟨rfl, ?_⟩
      refine (callsIn_wide.2 (nextI_any xt tp' tc' rp' rc' p' c' lv _)).mono ?_
      rintro e w1 ⟨rfl, hb1⟩
      refine hK _ _ ?_
      clear hK K
      have hcw := (hb1.block _ HLB.out).trans HCELL3.out
      have f2 := cell_of_blk hcw 0
      have f3 := cell_of_blk (((al_below w1 (.cells #[.int .i64 (nextL xt.kind lv)] 3)).block _ (Nat.lt_of_lt_of_le HLB.out hb1.size)).trans hcw) 0
      simp only [List.getElem?_toArray, List.getElem?_cons_zero] at f2 f3
      clear hcw
      refine wpAnyIn_ready (rs := [0, 6]) (by kernel_rfl) (by simp) ?_
      refine AllReadyIn.cons rfl (fun K hK => ?_) ?_
      · go_simp
        refine hK _ _ ?_
        clear hK K
        refine wpAnyIn_take (i := 2) (v := ?_) rfl rfl (by kernel_rfl) (by kernel_rfl) (by kernel_rfl) (fun _ _ _ h => h) ⟨Or.inl ⟨by rfl, ?_⟩, fun _ => rfl⟩ ?_
        rotate_left
        · intro w
          go_simp
          first
            | with_reducible rfl
            | (rw [if_pos ⟨by omega, by omega⟩]; done)
        refine wpAnyIn_ready (rs := [6]) (by kernel_rfl) (by simp) ?_
        refine AllReadyIn.cons rfl (fun K hK => ?_) AllReadyIn.nil
        go_simp
        refine hK _ _ ?_
        clear hK K
        refine wpAnyIn_ready (rs := [7]) (by kernel_rfl) (by simp) ?_
        refine AllReadyIn.cons rfl (fun K hK => ?_) AllReadyIn.nil
        refine stepIn_app1 (w0 := w1) (base := W.heap.size + 1) (v := .slice (some ⟨g, 0, none⟩) (d0 + 1) cap) (n := d0 + 1) (xs := (lvV st).take ((d0 + 1) * 1)) (cs := [.int .i64 (nextL xt.kind lv)]) rfl (.tmp 26) (.tmp 30) rfl Tryd.underlying88 hi hz0 hz1 hz2 rfl (by decide) rfl (row_below HTAKE.out ((Below.refl W3.heap.size W3).drew.trans hb1)) _ rfl (by simp) rfl (fun u hu => by simp at hu; subst hu; rfl) (by unfold maxLen; omega) (by omega) (by have h1 := hb1.size; have h2 := HLB.out; omega) ?_
        intro w' g2 cap2 hA
        have hcw := ((hA.kept (W.heap.size + 2) (Nat.lt_of_lt_of_le HLB.out hb1.size) (by simp only [Value.ownBlock, ne_eq, Option.some.injEq]; exact HGB.out)).1.trans (hb1.block _ HLB.out)).trans HCELL3.out
        have f4 := cell_of_blk hcw 0
        have z4 := unfrozen_of_blk hcw 0
        simp only [List.getElem?_toArray, List.getElem?_cons_zero] at f4
        clear hcw
        refine hK _ _ ?_
        clear hK K
        refine wpAnyIn_ready (rs := [8]) (by kernel_rfl) (by simp) ?_
        refine AllReadyIn.cons rfl (fun K hK => ?_) AllReadyIn.nil
        go_simp
        refine hK _ _ ?_
        clear hK K
        refine wpAnyIn_done (by kernel_rfl) ?_ _
        gi_wp2_with fail
        exact LvI.step HI.out (by omega) HCX.out HST.out HD.out.2 HLV.out HJ.out HG.out.1 HG.out.2.2.2 HG.out.2.1 HG.out.2.2.1 ((Below.refl W3.heap.size W3).drew.trans hb1) hA
      refine AllReadyIn.cons rfl (fun K hK => ?_) AllReadyIn.nil
      go_simp
      refine hK _ _ ?_
      clear hK K
      refine wpAnyIn_ready (rs := [0]) (by kernel_rfl) (by simp) ?_
      refine AllReadyIn.cons rfl (fun K hK => ?_) AllReadyIn.nil
      go_simp
      refine hK _ _ ?_
      clear hK K
      refine wpAnyIn_take (i := 2) (v := ?_) rfl rfl (by kernel_rfl) (by kernel_rfl) (by kernel_rfl) (fun _ _ _ h => h) ⟨Or.inl ⟨by rfl, ?_⟩, fun _ => rfl⟩ ?_
      rotate_left
      · intro w
        go_simp
        first
          | with_reducible rfl
          | (rw [if_pos ⟨by omega, by omega⟩]; done)
      refine wpAnyIn_ready (rs := [7]) (by kernel_rfl) (by simp) ?_
      refine AllReadyIn.cons rfl (fun K hK => ?_) AllReadyIn.nil
      refine stepIn_app1 (w0 := w1) (base := W.heap.size + 1) (v := .slice (some ⟨g, 0, none⟩) (d0 + 1) cap) (n := d0 + 1) (xs := (lvV st).take ((d0 + 1) * 1)) (cs := [.int .i64 (nextL xt.kind lv)]) rfl (.tmp 26) (.tmp 30) rfl Tryd.underlying88 hi hz0 hz1 hz2 rfl (by decide) rfl (row_below HTAKE.out ((Below.refl W3.heap.size W3).drew.trans hb1)) _ rfl (by simp) rfl (fun u hu => by simp at hu; subst hu; rfl) (by unfold maxLen; omega) (by omega) (by have h1 := hb1.size; have h2 := HLB.out; omega) ?_
      intro w' g2 cap2 hA
      have hcw := ((hA.kept (W.heap.size + 2) (Nat.lt_of_lt_of_le HLB.out hb1.size) (by simp only [Value.ownBlock, ne_eq, Option.some.injEq]; exact HGB.out)).1.trans (hb1.block _ HLB.out)).trans HCELL3.out
      have f4 := cell_of_blk hcw 0
      have z4 := unfrozen_of_blk hcw 0
      simp only [List.getElem?_toArray, List.getElem?_cons_zero] at f4
      clear hcw
      refine hK _ _ ?_
      clear hK K
      refine wpAnyIn_ready (rs := [8]) (by kernel_rfl) (by simp) ?_
      refine AllReadyIn.cons rfl (fun K hK => ?_) AllReadyIn.nil
      go_simp
      refine hK _ _ ?_
      clear hK K
      refine wpAnyIn_done (by kernel_rfl) ?_ _
      gi_wp2_with fail
      exact LvI.step HI.out (by omega) HCX.out HST.out HD.out.2 HLV.out HJ.out HG.out.1 HG.out.2.2.2 HG.out.2.1 HG.out.2.2.1 ((Below.refl W3.heap.size W3).drew.trans hb1) hA
    · gi_wp2_with fail
      exact LvI.stop HI.out hgr hH3 hno HLVP.out hJx3
end Go.Proofs.YtingnigiijdllaaDoor
namespace Go.Proofs.YtingnigiijdllaaDoor
open Go Go.RowKit Go.Shelf
attribute [local go_sem] Oper.semAt_some

abbrev iterL (Bn Be : Nat) : Value := .func (.func 82) #[] #[.pointer (some ⟨Bn, 0, none⟩), .pointer (some ⟨Be, 0, none⟩)]
def IterL (w : World) (t : Tm) (tp : Option Addr) (tc : Nat) (rp : Option Addr) (rc : Nat) (p : Option Addr) (c : Nat) (n : Int) (Bn Be : Nat) : Prop := w.heap[Bn]? = some (.cells #[.int .i64 n] 3 (0, 0)) ∧ w.heap[Be]? = some (.cells (tmC t tp tc rp rc p c) 35 (0, 0))
set_option maxRecDepth 100000 in
theorem nwl_any (t : Tm) (tp : Option Addr) (tc : Nat) (rp : Option Addr) (rc : Nat) (p : Option Addr) (c : Nat) (n : Int) (w : World) : Calls Tryd.prog 58 #[tmV t tp tc rp rc p c, .int .i64 n] w fun e w' =>
    ∃ Bn Be, e = .returned (iterL Bn Be) ∧ IterL w' t tp tc rp rc p c n Bn Be ∧ Below w.heap.size w w' := by
  go_enter Tryd.func58, Tryd.ntmps58
  go_wp2
  obtain ⟨wl, hwl, hsz, hbl, k1, k2⟩ := box_new2 w (tmC t tp tc rp rc p c) #[.int .i64 n] 35 3
  rw [hwl]
  go_ret
  exact ⟨_, _, rfl, ⟨k2, k1⟩, hbl⟩
theorem levels_seq {w wl : World} {C : Nat → Prop} {t : Tm} {tp : Option Addr} {tc : Nat} {rp : Option Addr} {rc : Nat} {p : Option Addr} {c : Nat} {n : Int} {Bn Be : Nat} (h : IterL w t tp tc rp rc p c n Bn Be) (hT : TM' w C t tp tc rp rc p c) (hn : t.nodes ≤ 2097153) (hb : Below w.heap.size w wl) (hC : ∀ b, C b → b < w.heap.size) :
    SeqD Fence.wide 2 Tryd.prog 82 #[.pointer (some ⟨Bn, 0, none⟩), .pointer (some ⟨Be, 0, none⟩)] encL keyL (GoodL C) C (walkL t n) wl := by
  intro l J Jx B0 W hbW hCB hB0 hJ hJx hY h0
  have hbb : Below w.heap.size w W := hb.trans (hbW.mono hb.size)
  exact levels_it l Bn Be t tp tc rp rc p c n C B0 W J Jx ((hbb.block _ (Array.getElem?_eq_some_iff.1 h.1).1).trans h.1) ((hbb.block _ (Array.getElem?_eq_some_iff.1 h.2).1).trans h.2) (hT.stays (.of_below hbb)) hn (fun b hc => Nat.lt_of_lt_of_le (hC b hc) hbb.size) hCB hB0 hJ hJx hY h0
theorem goodL_loop {C : Nat → Prop} {x : (Tm × Int) × Value} {Y : Nat → Prop} {A A' : World} {l : Nat} (h : GoodL C x Y A) (hA : Holds (fun b => b = l) A A') (hC : ¬ C l) : GoodL C x Y A' :=
  ⟨nstaysM h.1 ⟨hA.1, fun b hb hlt => hA.2 b hlt (fun e => hC (e ▸ hb))⟩, h.2⟩
theorem not_lv_at {t x : Tm} {n lv : Int} {pre : List (Tm × Int)} (h : pre ++ [(x, lv)] <+: walkL t n) (hx : ¬ LvNode (x, lv)) : ¬ (t.IsT ∧ t.lvOk n) := fun hh =>
  hx ((levels_walk t n).1 hh (x, lv) (h.subset (by simp)))
mutual
theorem wt_walkL : ∀ (t : Tm) (l : Int) (e : Tm × Int), e ∈ walkL t l → e.1.wt ≤ t.wt
  | .mk k a b n t r ts, l, e, h => by
    rw [walkL] at h
    rcases List.mem_cons.1 h with rfl | h
    · exact Nat.le_refl _
    · have h1 := wt_walkLS ts _ e h
      simp only [Tm.wt]
      omega
theorem wt_walkLS : ∀ (ts : List Tm) (l : Int) (e : Tm × Int), e ∈ walkLS ts l → e.1.wt ≤ wtS ts
  | [], l, e, h => by simp [walkLS] at h
  | t :: ts, l, e, h => by
    rw [walkLS] at h
    rcases List.mem_append.1 h with h | h
    · have h1 := wt_walkL t l e h
      simp only [wtS]
      omega
    · have h1 := wt_walkLS ts l e h
      simp only [wtS]
      omega
end

set_option maxRecDepth 100000 in
set_option maxHeartbeats 2000000 in
theorem levI_any {C : Nat → Prop} {t : Tm} {v : Value} {w : World} (n : Int) (hka : KA w) (h : TM w C t v) (hn : t.wt ≤ 2097152) :
    Calls Tryd.prog 36 #[v, .int .i64 n] w (Tells (t.IsT ∧ t.lvOk n) w) := by
  have hnt : t.nodes ≤ 2097153 := by have := t.nodes_wt; omega
  have HKA := Lib.hid (fun (w' : World) (hb : Below w.heap.size w w') => hka.below hb)
  have HWT := Lib.hid hn
  clear hka hn
  obtain ⟨tp, tc, rp, rc, p, c, rfl, hT⟩ := h
  have HT := Lib.hid (hT.mono (C' := (· < w.heap.size)) (fun _ _ h => h))
  clear hT
  refine (callsIn_wide (n := 3)).1 ?_
  refine callsIn_of_wp_marks Tryd.func36 rfl trivial ?_ rfl
  simp only [Tryd.ntmps36, List.size_toArray, List.length_cons, List.length_nil, Nat.reduceAdd, Nat.reduceSub, Array.replicate_succ, Array.replicate_zero, List.push_toArray, List.append_toArray, List.nil_append, List.cons_append]
  gi_wp2_with fail
  obtain ⟨w0, hw0, hs0, hb0, hk0, hk1⟩ := box_new2 w (tmC t tp tc rp rc p c) #[.bool false] 35 4
  rw [hw0]
  refine ⟨trivial, ?_⟩
  refine (callsIn_wide.2 (nwl_any t tp tc rp rc p c n w0)).mono ?_
  rintro e wl ⟨Bn, Be, rfl, hI, hbw⟩
  have hsz := hbw.size
  have hbl : Below w.heap.size w wl := hb0.trans (hbw.mono hb0.size)
  have k1 : wl.heap[w.heap.size + 1]? = some (.cells #[.bool false] 4 (0, 0)) := (hbw.block _ (by omega)).trans hk1
  have HSL : TM' wl (· < w.heap.size) t tp tc rp rc p c := HT.out.stays (.of_below hbl)
  clear hk0 hk1 hb0 hw0
  gi_wp2_with fail
  refine rangeD_law (F := Fence.wide) (n := 3) rfl (by omega) (gf := 82) (lb := #[.pointer (some ⟨Bn, 0, none⟩), .pointer (some ⟨Be, 0, none⟩)]) rfl trivial (enters_of Tryd.func82 (by kernel_rfl) rfl)
    (B0 := fun b => b = w.heap.size + 1) (levels_seq hI HSL hnt (Below.refl _ _) (fun b h => by omega)) (fun _ => rfl) (fun b h h2 => by omega) (fun b h => by omega) (fun b h => by omega)
    (fun pre B N W => (∀ z, B z ↔ z = w.heap.size + 1) ∧ (∀ z, ¬ N z) ∧ W.heap[w.heap.size + 1]? = some (.cells #[.bool false] 4 (0, 0)) ∧ (∀ e ∈ pre, LvNode e) ∧ Below w.heap.size w W)
    (fun j pre B N W => (∀ z, B z ↔ z = w.heap.size + 1) ∧ j = .ret ∧ W.cell? ⟨w.heap.size + 1, 0, none⟩ = some (.bool false) ∧ ¬ (t.IsT ∧ t.lvOk n) ∧ Below w.heap.size w W)
    (fun pre B N A A' h hk => ⟨h.1, h.2.1, (hk.1.block _ (by omega)).trans h.2.2.1, h.2.2.2.1, h.2.2.2.2.trans (hk.1.mono (by omega))⟩)
    (fun j pre B N A A' h hk => ⟨h.1, h.2.1, (hk.1.cell (by show w.heap.size + 1 < _; omega)).trans h.2.2.1, h.2.2.2.1, h.2.2.2.2.trans (hk.1.mono (by omega))⟩)
    (fun x Y A A' l r hl hg hr hA => goodL_loop hg hA (by omega)) (fun pre B N A h z hz => by rw [(h.1 z).1 hz]; exact (Array.getElem?_eq_some_iff.1 h.2.2.1).1) (fun x Y A z hg hz => absurd hz (hg.2 z)) ⟨fun _ => Iff.rfl, fun _ h => h, k1, (fun e he => absurd he (List.not_mem_nil)), hbl⟩
    (fun x s a' W => ∃ bx, W.heap[bx]? = some (.cells x.2.cells 35 (0, 0)) ∧ a' = { tmps := #[tmV t tp tc rp rc p c, .int .i64 n, .pointer (some ⟨w.heap.size, 0, none⟩), undef, .pointer (some ⟨w.heap.size + 1, 0, none⟩), .pointer (some ⟨bx, 0, none⟩), .int .i64 x.1.2,
      tmV t tp tc rp rc p c, .int .i64 n, iterL Bn Be, x.2, .int .i64 x.1.2, undef, undef, undef, undef, undef, undef, undef, undef, undef, undef, undef], defers := [] })
    (fun x s a' W l r o h hl => by
      obtain ⟨bx, h2, h3⟩ := h
      exact ⟨bx, (World.putObj_heap_other (fun e => by rw [e, hl] at h2; cases h2)).trans h2, h3⟩) ?assign ?body ?done ?stop
  case assign =>
    rintro l ⟨⟨x, lv⟩, v⟩ Y W K hG hK
    obtain ⟨tp', tc', rp', rc', p', c', rfl, hG'⟩ := (show TM W _ x v from hG.1)
    have HK := Lib.hid hK
    clear hK
    gi_wp2
    exact HK.out _ _ ((Below.refl _ _).alloc (Nat.le_refl _) _) ⟨W.heap.size, blk_new _ _, by simp⟩
  case body =>
    rintro l pre ⟨⟨x, lv⟩, v⟩ s a' Y B N W ⟨hBo, hNo, hr, hso, hB⟩ hpre hG hYB hs ⟨bx, hbx, rfl⟩ hlp hBl
    have hpre : pre ++ [(x, lv)] <+: walkL t n := hpre
    have hbx : W.heap[bx]? = some (.cells v.cells 35 (0, 0)) := hbx
    obtain ⟨tp', tc', rp', rc', p', c', rfl, hG'⟩ := (show TM W _ x v from hG.1)
    simp only [Value.cells] at hbx
    obtain ⟨x0, x1, x2, x3, x4, x5, x6, x7, x8⟩ := Bx9.of hbx
    have hxw : x.wt ≤ 2097152 := by
      have h1 := wt_walkL t n (x, lv) (hpre.subset (by simp))
      have h2 := HWT.out
      simp only at h1
      omega
    have HC := Lib.hid (formI_any W (HKA.out W hB) hG' hxw)
    have HR1 := Lib.hid hr
    have HB1 := Lib.hid hB
    have HSO := Lib.hid hso
    have HP := Lib.hid hpre
    have HBO := Lib.hid hBo
    have HFIN := Lib.hid (fun (W' : World) (hb : Below W.heap.size W W') => show W'.heap[w.heap.size + 1]? = some (.cells #[.bool false] 4 (0, 0)) from (hb.block _ (Array.getElem?_eq_some_iff.1 hr).1).trans hr)
    have hstop : ¬ LvNode (x, lv) → ∀ (W' : World) (q : World), Below W.heap.size W W' → q = W'.setCell ⟨w.heap.size + 1, 0, none⟩ (.bool false) → ∃ B' N' : Nat → Prop, Grew B B' W.heap.size q.heap.size ∧ (∀ z, N' z → N z ∨ Y z) ∧ Holds B W q ∧ (∀ z, B' z ↔ z = w.heap.size + 1) ∧ q.cell? ⟨w.heap.size + 1, 0, none⟩ = some (.bool false) ∧ ¬ (t.IsT ∧ t.lvOk n) ∧ Below w.heap.size w q := by
      rintro hno W' q hb rfl
      have hr2 := HFIN.out W' hb
      have r2 := cell_of_blk hr2 0
      simp only [List.getElem?_toArray, List.getElem?_cons_zero] at r2
      have hlt := (Array.getElem?_eq_some_iff.1 hr2).1
      refine ⟨B, fun _ => False, Grew.refl (fun b hb' => ?_), fun z hz => hz.elim, Holds.setCell (.of_below hb) ⟨w.heap.size + 1, 0, none⟩ ((hBo _).2 rfl) _, hBo, World.cell?_setCell_same' W' ⟨w.heap.size + 1, 0, none⟩ (.bool false) (by rw [r2]; rfl), not_lv_at hpre hno, (hB.trans (hb.mono hB.size)).setCell (p := ⟨w.heap.size + 1, 0, none⟩) (by show w.heap.size ≤ w.heap.size + 1; omega) _⟩
      rw [(hBo b).1 hb']
      simpa [World.setCell] using hlt
    have hgo : LvNode (x, lv) → ∀ (W' : World), Below W.heap.size W W' → ∃ B' N' : Nat → Prop, Grew B B' W.heap.size W'.heap.size ∧ (∀ z, N' z → N z ∨ Y z) ∧ Holds B W W' ∧ (∀ z, B' z ↔ z = w.heap.size + 1) ∧ (∀ z, ¬ N' z) ∧ W'.heap[w.heap.size + 1]? = some (.cells #[.bool false] 4 (0, 0)) ∧ (∀ e ∈ pre ++ [(x, lv)], LvNode e) ∧ Below w.heap.size w W' := by
      intro hx W' hb
      have hr2 := HFIN.out W' hb
      refine ⟨B, fun _ => False, Grew.refl (fun b hb' => ?_), fun z hz => hz.elim, .of_below hb, hBo, fun _ h => h, hr2, fun e he => ?_, hB.trans (hb.mono hB.size)⟩
      · rw [(hBo b).1 hb']
        exact (Array.getElem?_eq_some_iff.1 hr2).1
      · rcases List.mem_append.1 he with he | he
        · exact hso e he
        · simp only [List.mem_singleton] at he
          subst he
          exact hx
    have HSTOP := Lib.hid hstop
    have HGO := Lib.hid hgo
    have r2 := cell_of_blk hr 0
    have rz := unfrozen_of_blk hr 0
    simp only [List.getElem?_toArray, List.getElem?_cons_zero] at r2
    clear hso hpre hr hbx hB k1 hG' HSL hbl hbw hI hxw hBo hNo hYB hs hlp hBl hG hstop hgo
    by_cases hn0 : lv < 0
    · have t1 : decide (lv < 0) = true := by simp [hn0]
      have HN0 := Lib.hid hn0
      clear hn0
      gi_wp2_with fail
      refine ⟨trivial, ?_⟩
      gi_wp2_with fail
      obtain ⟨B', N', h1, h2, h3, h4, h5, h6, h7⟩ := HSTOP.out (fun h => by have h1 := h.1.1; have h2 := HN0.out; simp only at h1; omega) W _ (Below.refl _ _) rfl
      exact ⟨B', N', h1, h2, h3, h4, rfl, h5, h6, h7⟩
    have t1 : decide (lv < 0) = false := by simp; omega
    have HN0 := Lib.hid hn0
    clear hn0
    by_cases hn2 : lv > 2
    · have t2 : decide (2 < lv) = true := by simp; omega
      have HN2 := Lib.hid hn2
      clear hn2
      gi_wp2_with fail
      refine ⟨trivial, ?_⟩
      gi_wp2_with fail
      obtain ⟨B', N', h1, h2, h3, h4, h5, h6, h7⟩ := HSTOP.out (fun h => by have h1 := h.1.2; have h2 := HN2.out; simp only at h1; omega) W _ (Below.refl _ _) rfl
      exact ⟨B', N', h1, h2, h3, h4, rfl, h5, h6, h7⟩
    have t2 : decide (2 < lv) = false := by simp; omega
    have HN2 := Lib.hid hn2
    clear hn2
    gi_wp2_with fail
    refine ⟨trivial, ?_⟩
    refine (CallsIn.inRound l (callsIn_wide.2 HC.out)).mono ?_
    rintro e W2 ⟨b, hb, rfl, hb2⟩
    have HBB := Lib.hid hb
    have HB2 := Lib.hid hb2
    have hr2 := HFIN.out W2 hb2
    have r3 := cell_of_blk hr2 0
    have rz3 := unfrozen_of_blk hr2 0
    simp only [List.getElem?_toArray, List.getElem?_cons_zero] at r3
    clear hb hb2 x0 x1 x2 x3 x4 x5 x6 x7 x8 r2 rz hr2
    cases b with
    | false =>
      gi_wp2_with fail
      obtain ⟨B', N', h1, h2, h3, h4, h5, h6, h7⟩ := HSTOP.out (fun h => by have := HBB.out.2 h.2; cases this) W2 _ HB2.out rfl
      exact ⟨B', N', h1, h2, h3, h4, rfl, h5, h6, h7⟩
    | true =>
      gi_wp2_with fail
      exact HGO.out ⟨⟨by have := HN0.out; omega, by have := HN2.out; omega⟩, HBB.out.1 (by trivial)⟩ W2 HB2.out
  case done =>
    rintro D B N W hD hne ⟨hBo, hNo, hr, hso, hB⟩ hK
    have r0 := cell_of_blk hr 0
    have rz := unfrozen_of_blk hr 0
    simp only [List.getElem?_toArray, List.getElem?_cons_zero] at r0
    have HV := Lib.hid ((levels_walk t n).2 hso)
    have HB := Lib.hid hB
    have hK' : (W.setCell ⟨w.heap.size + 1, 0, none⟩ (.bool true)).heap[D]? = some (.deferred (some [])) := (Below.heap_setCell _ _ _ _ (by show D ≠ w.heap.size + 1; omega)).trans hK
    clear hso hB hr hK k1 HSL hbl hbw hI hBo hNo hne
    gi_wp2_with fail
    refine ⟨by simp, .inl ⟨_, _, rfl, run_takeDeferred hK', ?_⟩⟩
    have hc := (World.cell?_of_block (a := ⟨w.heap.size + 1, 0, none⟩) (w' := (W.setCell ⟨w.heap.size + 1, 0, none⟩ (.bool true)).putObj D (.deferred none)) (World.putObj_heap_other (by show w.heap.size + 1 ≠ D; omega))).trans (World.cell?_setCell_same' W ⟨w.heap.size + 1, 0, none⟩ (.bool true) (by rw [r0]; rfl))
    refine ⟨.bool true, ?_, _, ⟨fun _ => HV.out, fun _ => rfl⟩, rfl, (HB.out.setCell (p := ⟨w.heap.size + 1, 0, none⟩) (by show w.heap.size ≤ w.heap.size + 1; omega) _).trans (below_putObj _ _ _ _ (by omega))⟩
    rw [results_cell1 rfl]
    go_simp
  case stop =>
    rintro D c pre B N W hD hne hpre ⟨hBo, rfl, hr, hv, hB⟩ hK
    have HB := Lib.hid hB
    have HV := Lib.hid hv
    clear hv hB k1 HSL hbl hbw hI hBo hne
    gi_wp2_with fail
    refine ⟨by simp, .inl ⟨_, _, rfl, run_takeDeferred hK, ?_⟩⟩
    have hc := (World.cell?_of_block (a := ⟨w.heap.size + 1, 0, none⟩) (w' := W.putObj D (.deferred none)) (World.putObj_heap_other (by show w.heap.size + 1 ≠ D; omega))).trans hr
    refine ⟨.bool false, ?_, _, ⟨fun h => by simp at h, fun h => absurd h HV.out⟩, rfl, HB.out.trans (below_putObj _ _ _ _ (by omega))⟩
    rw [results_cell1 rfl]
    go_simp
end Go.Proofs.YtingnigiijdllaaDoor
namespace Go.Proofs.YtingnigiijdllaaDoor
open Go Go.RowKit Go.Shelf
attribute [local go_sem] Oper.semAt_some

set_option maxRecDepth 100000 in
set_option maxHeartbeats 2000000 in
theorem genI_any {C : Nat → Prop} {t : Tm} {v : Value} {w : World} (n : Int) (hka : KA w) (h : TM w C t v) (hn : t.wt ≤ 2097152) :
    Calls Tryd.prog 31 #[v, .int .i64 n] w (Tells ((t.IsT ∧ t.lvOk n) ∧ t.made n) w) := by
  have hnt : t.nodes ≤ 2097153 := by have := t.nodes_wt; omega
  have HKA := Lib.hid (fun (w' : World) (hb : Below w.heap.size w w') => hka.below hb)
  have HWT := Lib.hid hn
  clear hka hn
  obtain ⟨tp, tc, rp, rc, p, c, rfl, hT⟩ := h
  have HT := Lib.hid (hT.mono (C' := (· < w.heap.size)) (fun _ _ h => h))
  clear hT
  refine (callsIn_wide (n := 3)).1 ?_
  refine callsIn_of_wp_marks Tryd.func31 rfl trivial ?_ rfl
  simp only [Tryd.ntmps31, List.size_toArray, List.length_cons, List.length_nil, Nat.reduceAdd, Nat.reduceSub, Array.replicate_succ, Array.replicate_zero, List.push_toArray, List.append_toArray, List.nil_append, List.cons_append]
  gi_wp2_with fail
  obtain ⟨w0, hw0, hs0, hb0, hk0, hk1⟩ := box_new2 w (tmC t tp tc rp rc p c) #[.bool false] 35 4
  rw [hw0]
  refine ⟨trivial, ?_⟩
  refine (callsIn_wide.2 (levI_any n (HKA.out _ hb0) ⟨_, _, _, _, _, _, rfl, HT.out.stays (.of_below hb0)⟩ HWT.out)).mono ?_
  rintro e w1 ⟨r, hr, rfl, hb1⟩
  have hk01 := (hb1.block _ (by omega)).trans hk0
  have hk11 := (hb1.block _ (by omega)).trans hk1
  have hb01 : Below w.heap.size w w1 := hb0.trans (hb1.mono hb0.size)
  have hs1 := hb1.size
  have HR := Lib.hid hr
  clear hr hb1
  obtain ⟨y0, y1, y2, y3, y4, y5, y6, y7, y8⟩ := Bx9.of hk01
  have q0 := cell_of_blk hk11 0
  have qz := unfrozen_of_blk hk11 0
  simp only [List.getElem?_toArray, List.getElem?_cons_zero] at q0
  cases r with
  | false =>
    have hcc := World.cell?_setCell_same' w1 ⟨w.heap.size + 1, 0, none⟩ (.bool false) (by rw [q0]; rfl)
    have HB01 := Lib.hid hb01
    clear hk0 hk1 hb0 hw0 hk01 hk11 hb01
    gi_wp2_with fail
    refine ⟨.bool false, ?_, false, by simp only [Bool.false_eq_true, false_iff]; exact fun h => (by have := HR.out.2 h.1; cases this), rfl, HB01.out.setCell (p := ⟨w.heap.size + 1, 0, none⟩) (by show w.heap.size ≤ w.heap.size + 1; omega) _⟩
    rw [results_cell1 rfl]
    go_simp
  | true =>
  have HLV := Lib.hid ((levels_walk t n).1 (HR.out.1 (by trivial)))
  have HIS := Lib.hid (HR.out.1 (by trivial))
  clear qz q0
  gi_wp2_with fail
  refine ⟨trivial, ?_⟩
  refine (callsIn_wide.2 (nwl_any t tp tc rp rc p c n w1)).mono ?_
  rintro e wl ⟨Bn, Be, rfl, hI, hbw⟩
  have hsz := hbw.size
  have hbl : Below w.heap.size w wl := hb01.trans (hbw.mono hb01.size)
  have k1 : wl.heap[w.heap.size + 1]? = some (.cells #[.bool false] 4 (0, 0)) := (hbw.block _ (by omega)).trans hk11
  clear y0 y1 y2 y3 y4 y5 y6 y7 y8 hk01 hk11
  have HSL : TM' wl (· < w.heap.size) t tp tc rp rc p c := HT.out.stays (.of_below hbl)
  clear hk0 hk1 hb0 hw0
  gi_wp2_with fail
  refine rangeD_law (F := Fence.wide) (n := 3) rfl (by omega) (gf := 82) (lb := #[.pointer (some ⟨Bn, 0, none⟩), .pointer (some ⟨Be, 0, none⟩)]) rfl trivial (enters_of Tryd.func82 (by kernel_rfl) rfl)
    (B0 := fun b => b = w.heap.size + 1) (levels_seq hI HSL hnt (Below.refl _ _) (fun b h => by omega)) (fun _ => rfl) (fun b h h2 => by omega) (fun b h => by omega) (fun b h => by omega)
    (fun pre B N W => (∀ z, B z ↔ z = w.heap.size + 1) ∧ (∀ z, ¬ N z) ∧ W.heap[w.heap.size + 1]? = some (.cells #[.bool false] 4 (0, 0)) ∧ (∀ e ∈ pre, ¬ (e.1.kind = 11 ∧ e.2 = 1)) ∧ Below w.heap.size w W)
    (fun j pre B N W => (∀ z, B z ↔ z = w.heap.size + 1) ∧ j = .ret ∧ W.cell? ⟨w.heap.size + 1, 0, none⟩ = some (.bool false) ∧ ¬ ((t.IsT ∧ t.lvOk n) ∧ t.made n) ∧ Below w.heap.size w W)
    (fun pre B N A A' h hk => ⟨h.1, h.2.1, (hk.1.block _ (by omega)).trans h.2.2.1, h.2.2.2.1, h.2.2.2.2.trans (hk.1.mono (by omega))⟩)
    (fun j pre B N A A' h hk => ⟨h.1, h.2.1, (hk.1.cell (by show w.heap.size + 1 < _; omega)).trans h.2.2.1, h.2.2.2.1, h.2.2.2.2.trans (hk.1.mono (by omega))⟩)
    (fun x Y A A' l r hl hg hr hA => goodL_loop hg hA (by omega)) (fun pre B N A h z hz => by rw [(h.1 z).1 hz]; exact (Array.getElem?_eq_some_iff.1 h.2.2.1).1) (fun x Y A z hg hz => absurd hz (hg.2 z)) ⟨fun _ => Iff.rfl, fun _ h => h, k1, (fun e he => absurd he (List.not_mem_nil)), hbl⟩
    (fun x s a' W => ∃ bx, W.heap[bx]? = some (.cells x.2.cells 35 (0, 0)) ∧ a' = { tmps := #[tmV t tp tc rp rc p c, .int .i64 n, .pointer (some ⟨w.heap.size, 0, none⟩), undef, .pointer (some ⟨w.heap.size + 1, 0, none⟩), .pointer (some ⟨bx, 0, none⟩), .int .i64 x.1.2,
      tmV t tp tc rp rc p c, .int .i64 n, .bool true, .bool false, tmV t tp tc rp rc p c, .int .i64 n, iterL Bn Be, x.2, .int .i64 x.1.2, undef, undef, undef, undef, undef, undef, undef, undef, undef], defers := [] })
    (fun x s a' W l r o h hl => by
      obtain ⟨bx, h2, h3⟩ := h
      exact ⟨bx, (World.putObj_heap_other (fun e => by rw [e, hl] at h2; cases h2)).trans h2, h3⟩) ?assign ?body ?done ?stop
  case assign =>
    rintro l ⟨⟨x, lv⟩, v⟩ Y W K hG hK
    obtain ⟨tp', tc', rp', rc', p', c', rfl, hG'⟩ := (show TM W _ x v from hG.1)
    have HK := Lib.hid hK
    clear hK
    gi_wp2
    exact HK.out _ _ ((Below.refl _ _).alloc (Nat.le_refl _) _) ⟨W.heap.size, blk_new _ _, by simp⟩
  case body =>
    rintro l pre ⟨⟨x, lv⟩, v⟩ s a' Y B N W ⟨hBo, hNo, hr, hso, hB⟩ hpre hG hYB hs ⟨bx, hbx, rfl⟩ hlp hBl
    have hpre : pre ++ [(x, lv)] <+: walkL t n := hpre
    have hbx : W.heap[bx]? = some (.cells v.cells 35 (0, 0)) := hbx
    obtain ⟨tp', tc', rp', rc', p', c', rfl, hG'⟩ := (show TM W _ x v from hG.1)
    simp only [Value.cells] at hbx
    obtain ⟨x0, x1, x2, x3, x4, x5, x6, x7, x8⟩ := Bx9.of hbx
    have hlv : 0 ≤ lv ∧ lv ≤ 2 := (HLV.out (x, lv) (hpre.subset (by simp))).1
    have HR1 := Lib.hid hr
    have HB1 := Lib.hid hB
    have HSO := Lib.hid hso
    have HP := Lib.hid hpre
    have HBO := Lib.hid hBo
    have HFIN := Lib.hid (fun (W' : World) (hb : Below W.heap.size W W') => show W'.heap[w.heap.size + 1]? = some (.cells #[.bool false] 4 (0, 0)) from (hb.block _ (Array.getElem?_eq_some_iff.1 hr).1).trans hr)
    have hstop : (x.kind = 11 ∧ lv = 1) → ∀ (W' : World) (q : World), Below W.heap.size W W' → q = W'.setCell ⟨w.heap.size + 1, 0, none⟩ (.bool false) → ∃ B' N' : Nat → Prop, Grew B B' W.heap.size q.heap.size ∧ (∀ z, N' z → N z ∨ Y z) ∧ Holds B W q ∧ (∀ z, B' z ↔ z = w.heap.size + 1) ∧ q.cell? ⟨w.heap.size + 1, 0, none⟩ = some (.bool false) ∧ ¬ ((t.IsT ∧ t.lvOk n) ∧ t.made n) ∧ Below w.heap.size w q := by
      rintro hno W' q hb rfl
      have hr2 := HFIN.out W' hb
      have r2 := cell_of_blk hr2 0
      simp only [List.getElem?_toArray, List.getElem?_cons_zero] at r2
      have hlt := (Array.getElem?_eq_some_iff.1 hr2).1
      refine ⟨B, fun _ => False, Grew.refl (fun b hb' => ?_), fun z hz => hz.elim, Holds.setCell (.of_below hb) ⟨w.heap.size + 1, 0, none⟩ ((hBo _).2 rfl) _, hBo, World.cell?_setCell_same' W' ⟨w.heap.size + 1, 0, none⟩ (.bool false) (by rw [r2]; rfl), (fun hh => (made_walk t n).1 hh.2 (x, lv) (hpre.subset (by simp)) hno), (hB.trans (hb.mono hB.size)).setCell (p := ⟨w.heap.size + 1, 0, none⟩) (by show w.heap.size ≤ w.heap.size + 1; omega) _⟩
      rw [(hBo b).1 hb']
      simpa [World.setCell] using hlt
    have hgo : ¬ (x.kind = 11 ∧ lv = 1) → ∀ (W' : World), Below W.heap.size W W' → ∃ B' N' : Nat → Prop, Grew B B' W.heap.size W'.heap.size ∧ (∀ z, N' z → N z ∨ Y z) ∧ Holds B W W' ∧ (∀ z, B' z ↔ z = w.heap.size + 1) ∧ (∀ z, ¬ N' z) ∧ W'.heap[w.heap.size + 1]? = some (.cells #[.bool false] 4 (0, 0)) ∧ (∀ e ∈ pre ++ [(x, lv)], ¬ (e.1.kind = 11 ∧ e.2 = 1)) ∧ Below w.heap.size w W' := by
      intro hx W' hb
      have hr2 := HFIN.out W' hb
      refine ⟨B, fun _ => False, Grew.refl (fun b hb' => ?_), fun z hz => hz.elim, .of_below hb, hBo, fun _ h => h, hr2, fun e he => ?_, hB.trans (hb.mono hB.size)⟩
      · rw [(hBo b).1 hb']
        exact (Array.getElem?_eq_some_iff.1 hr2).1
      · rcases List.mem_append.1 he with he | he
        · exact hso e he
        · simp only [List.mem_singleton] at he
          subst he
          exact hx
    have HSTOP := Lib.hid hstop
    have HGO := Lib.hid hgo
    have r2 := cell_of_blk hr 0
    have rz := unfrozen_of_blk hr 0
    simp only [List.getElem?_toArray, List.getElem?_cons_zero] at r2
    clear hso hpre hr hbx hB k1 hG' HSL hbl hbw hI hBo hNo hYB hs hlp hBl hG hstop hgo
    by_cases hk : x.kind = 11
    · have t1 : (x.kind == 11) = true := by simp [hk]
      have HK := Lib.hid hk
      have HNX := Lib.hid (show nextL x.kind lv = lv - 1 by
        unfold nextL
        rw [if_neg (by omega), if_pos hk]
        unfold wrap64
        omega)
      clear hk
      gi_wp2_with fail
      refine ⟨trivial, ?_⟩
      refine (CallsIn.inRound l (callsIn_wide.2 (nextI_any x tp' tc' rp' rc' p' c' lv W))).mono ?_
      rintro e W2 ⟨rfl, hb2⟩
      rw [HNX.out]
      have HB2 := Lib.hid hb2
      have hr2 := HFIN.out W2 hb2
      have r3 := cell_of_blk hr2 0
      have rz3 := unfrozen_of_blk hr2 0
      simp only [List.getElem?_toArray, List.getElem?_cons_zero] at r3
      clear hb2 x0 x1 x2 x3 x4 x5 x6 x7 x8 r2 rz hr2
      by_cases h1 : lv = 1
      · have t2 : (lv - 1 == 0) = true := by simp; omega
        have H1 := Lib.hid h1
        clear h1
        gi_wp2_with fail
        obtain ⟨B', N', h1, h2, h3, h4, h5, h6, h7⟩ := HSTOP.out ⟨HK.out, H1.out⟩ W2 _ HB2.out rfl
        exact ⟨B', N', h1, h2, h3, h4, rfl, h5, h6, h7⟩
      · have t2 : (lv - 1 == 0) = false := by simp; omega
        have H1 := Lib.hid h1
        clear h1
        gi_wp2_with fail
        exact HGO.out (fun h => H1.out h.2) W2 HB2.out
    · have t1 : (x.kind == 11) = false := by simp [hk]
      have HK := Lib.hid hk
      clear hk
      gi_wp2_with fail
      refine ⟨trivial, ?_⟩
      gi_wp2_with fail
      exact HGO.out (fun h => HK.out h.1) W (Below.refl _ _)
  case done =>
    rintro D B N W hD hne ⟨hBo, hNo, hr, hso, hB⟩ hK
    have r0 := cell_of_blk hr 0
    have rz := unfrozen_of_blk hr 0
    simp only [List.getElem?_toArray, List.getElem?_cons_zero] at r0
    have HV := Lib.hid (And.intro HIS.out ((made_walk t n).2 hso))
    have HB := Lib.hid hB
    have hK' : (W.setCell ⟨w.heap.size + 1, 0, none⟩ (.bool true)).heap[D]? = some (.deferred (some [])) := (Below.heap_setCell _ _ _ _ (by show D ≠ w.heap.size + 1; omega)).trans hK
    clear hso hB hr hK k1 HSL hbl hbw hI hBo hNo hne
    gi_wp2_with fail
    refine ⟨by simp, .inl ⟨_, _, rfl, run_takeDeferred hK', ?_⟩⟩
    have hc := (World.cell?_of_block (a := ⟨w.heap.size + 1, 0, none⟩) (w' := (W.setCell ⟨w.heap.size + 1, 0, none⟩ (.bool true)).putObj D (.deferred none)) (World.putObj_heap_other (by show w.heap.size + 1 ≠ D; omega))).trans (World.cell?_setCell_same' W ⟨w.heap.size + 1, 0, none⟩ (.bool true) (by rw [r0]; rfl))
    refine ⟨.bool true, ?_, _, ⟨fun _ => HV.out, fun _ => rfl⟩, rfl, (HB.out.setCell (p := ⟨w.heap.size + 1, 0, none⟩) (by show w.heap.size ≤ w.heap.size + 1; omega) _).trans (below_putObj _ _ _ _ (by omega))⟩
    rw [results_cell1 rfl]
    go_simp
  case stop =>
    rintro D c pre B N W hD hne hpre ⟨hBo, rfl, hr, hv, hB⟩ hK
    have HB := Lib.hid hB
    have HV := Lib.hid hv
    clear hv hB k1 HSL hbl hbw hI hBo hne
    gi_wp2_with fail
    refine ⟨by simp, .inl ⟨_, _, rfl, run_takeDeferred hK, ?_⟩⟩
    have hc := (World.cell?_of_block (a := ⟨w.heap.size + 1, 0, none⟩) (w' := W.putObj D (.deferred none)) (World.putObj_heap_other (by show w.heap.size + 1 ≠ D; omega))).trans hr
    refine ⟨.bool false, ?_, _, ⟨fun h => by simp at h, fun h => absurd h HV.out⟩, rfl, HB.out.trans (below_putObj _ _ _ _ (by omega))⟩
    rw [results_cell1 rfl]
    go_simp
end Go.Proofs.YtingnigiijdllaaDoor
namespace Go.Proofs.YtingnigiijdllaaDoor
open Go Go.RowKit
def Tm.sc (t : Tm) : List Tm := if t.kind = 1 then [] else t.args
theorem sc_not {t : Tm} (h : ¬ t.kind = 1) : t.sc = t.args := by unfold Tm.sc; rw [if_neg h]
def scV (t : Tm) (p : Option Addr) (c : Nat) : Value := if t.kind = 1 then .slice none 0 0 else .slice p t.args.length c
set_option maxRecDepth 100000 in
set_option maxHeartbeats 1000000 in
theorem argsSc_any {w : World} {b o : Nat} {t : Tm} {tp rp p : Option Addr} {tc rc c : Nat} (h : At9 w b o t tp tc rp rc p c) :
    Calls Tryd.prog 102 #[.pointer (some ⟨b, o, none⟩)] w fun e w' => e = .returned (scV t p c) ∧ w' = w := by
  obtain ⟨g0, g1, g2, g3, g4, g5, g6, g7, g8⟩ := h
  go_enter Tryd.func102, Tryd.ntmps102
  by_cases h1 : t.kind = 1
  · have e1 : (t.kind == 1) = true := by simp; omega
    have HV := Lib.hid (show scV t p c = .slice none 0 0 by unfold scV; rw [if_pos h1])
    clear h1
    go_wp2_with fail
    go_ret
    exact ⟨by rw [HV.out]; rfl, rfl⟩
  · have e1 : (t.kind == 1) = false := by simp; omega
    have HV := Lib.hid (show scV t p c = .slice p t.args.length c by unfold scV; rw [if_neg h1])
    clear h1
    go_wp2_with fail
    go_ret
    exact ⟨by rw [HV.out]; rfl, rfl⟩
def NmV (w : World) (base : Nat) (xs : List ByteArray) (v : Value) : Prop := (xs = [] ∧ v = .slice none 0 0) ∨ (xs ≠ [] ∧ Own w base v xs)
theorem ar_six {t : Tm} (h : t.kind = 6) : t.arOk ↔ t.args.length = 1 := by
  unfold Tm.arOk
  rw [show t.arity = 1 by unfold Tm.arity; rw [h]; rfl]
  exact ⟨fun h => by omega, fun h => ⟨by omega, fun h => by omega⟩⟩
theorem ar_eight {t : Tm} (h : t.kind = 8) : t.arOk ↔ t.args.length = 2 := by
  unfold Tm.arOk
  rw [show t.arity = 2 by unfold Tm.arity; rw [h]; rfl]
  exact ⟨fun h => by omega, fun h => ⟨by omega, fun h => by omega⟩⟩
theorem ar_nine {t : Tm} (h : t.kind = 9) : t.arOk ↔ t.args.length = 1 := by
  unfold Tm.arOk
  rw [show t.arity = 1 by unfold Tm.arity; rw [h]; rfl]
  exact ⟨fun h => by omega, fun h => ⟨by omega, fun h => by omega⟩⟩
theorem bnd_no {t : Tm} (h : ¬ t.arOk) : t.bnd = [] := by
  unfold Tm.bnd
  rw [if_neg (fun e => h ((ar_six e.1).2 e.2)), if_neg (fun e => h ((ar_eight e.1).2 e.2)), if_neg (fun e => h ((ar_nine e.1).2 e.2))]
theorem bnd_one {t : Tm} (h : t.arOk) (hk : t.kind = 6 ∨ t.kind = 8) : t.bnd = [t.name] := by
  unfold Tm.bnd
  rcases hk with hk | hk
  · rw [if_pos ⟨hk, (ar_six hk).1 h⟩]
  · rw [if_neg (fun e => by omega), if_pos ⟨hk, (ar_eight hk).1 h⟩]
theorem bnd_two {t : Tm} (h : t.arOk) (hk : t.kind = 9) : t.bnd = [t.name, t.other] := by
  unfold Tm.bnd
  rw [if_neg (fun e => by omega), if_neg (fun e => by omega), if_pos ⟨hk, (ar_nine hk).1 h⟩]
theorem bnd_oth {t : Tm} (h6 : ¬ t.kind = 6) (h8 : ¬ t.kind = 8) (h9 : ¬ t.kind = 9) : t.bnd = [] := by
  unfold Tm.bnd
  rw [if_neg (fun e => h6 e.1), if_neg (fun e => h8 e.1), if_neg (fun e => h9 e.1)]
set_option maxRecDepth 100000 in
set_option maxHeartbeats 4000000 in
theorem bndI_any {w : World} {b o : Nat} {t : Tm} {tp rp p : Option Addr} {tc rc c : Nat} (h : At9 w b o t tp tc rp rc p c) (hka : KA w) (hn : t.wt ≤ 2097152) :
    Calls Tryd.prog 103 #[.pointer (some ⟨b, o, none⟩)] w fun e w' => ∃ v, e = .returned v ∧ NmV w' w.heap.size t.bnd v ∧ Below w.heap.size w w' := by
  have HA := Lib.hid (hasAr_any t tp tc rp rc p c w hka hn)
  have H9 := Lib.hid (fun w' (hb : Below w.heap.size w w') => ((⟨(hb.cell (World.block_lt_of_cell? w _ h.kind)).trans h.kind, (hb.cell (World.block_lt_of_cell? w _ h.name)).trans h.name, (hb.cell (World.block_lt_of_cell? w _ h.other)).trans h.other, (hb.cell (World.block_lt_of_cell? w _ h.n)).trans h.n, (hb.cell (World.block_lt_of_cell? w _ h.tk)).trans h.tk, (hb.cell (World.block_lt_of_cell? w _ h.ta)).trans h.ta, (hb.cell (World.block_lt_of_cell? w _ h.rk)).trans h.rk, (hb.cell (World.block_lt_of_cell? w _ h.ra)).trans h.ra, (hb.cell (World.block_lt_of_cell? w _ h.args)).trans h.args⟩ : At9 w' b o t tp tc rp rc p c)))
  obtain ⟨g0, g1, g2, g3, g4, g5, g6, g7, g8⟩ := h
  clear hka
  go_enter Tryd.func103, Tryd.ntmps103
  go_wp2_with fail
  refine HA.out.mono ?_
  rintro e w1 ⟨r, hr, rfl, hb1⟩
  have HR := Lib.hid hr
  have HB1 := Lib.hid hb1
  clear g0 g1 g2 g3 g4 g5 g6 g7 g8
  obtain ⟨g0, g1, g2, g3, g4, g5, g6, g7, g8⟩ := H9.out w1 hb1
  clear hr hb1
  cases r with
  | false =>
    have HV := Lib.hid (bnd_no (t := t) (fun h => by have := HR.out.2 h; cases this))
    go_wp2_with fail
    go_ret
    exact ⟨_, rfl, Or.inl ⟨HV.out, rfl⟩, HB1.out⟩
  | true =>
    have HK := Lib.hid (HR.out.1 rfl)
    by_cases h6 : t.kind = 6
    · have e6 : (t.kind == 6) = true := by simp; omega
      have HV := Lib.hid (bnd_one HK.out (Or.inl h6))
      clear h6
      go_wp2_with fail
      go_ret
      exact ⟨_, rfl, Or.inr ⟨by rw [HV.out]; simp, by rw [HV.out]; exact (own_one w1 t.name).base HB1.out.size⟩, HB1.out.trans ((al_below w1 _).mono HB1.out.size)⟩
    have e6 : (t.kind == 6) = false := by simp; omega
    by_cases h8 : t.kind = 8
    · have e8 : (t.kind == 8) = true := by simp; omega
      have HV := Lib.hid (bnd_one HK.out (Or.inr h8))
      clear h6 h8
      go_wp2_with fail
      go_ret
      exact ⟨_, rfl, Or.inr ⟨by rw [HV.out]; simp, by rw [HV.out]; exact (own_one w1 t.name).base HB1.out.size⟩, HB1.out.trans ((al_below w1 _).mono HB1.out.size)⟩
    have e8 : (t.kind == 8) = false := by simp; omega
    by_cases h9 : t.kind = 9
    · have e9 : (t.kind == 9) = true := by simp; omega
      have HV := Lib.hid (bnd_two HK.out h9)
      clear h6 h8 h9
      go_wp2_with fail
      go_region
      go_wp2_with fail
      go_ret
      have hd := (Below.refl w1.heap.size w1).drew
      exact ⟨_, rfl, Or.inr ⟨by rw [HV.out]; simp, by rw [HV.out]; exact (own_two w1.drew t.name t.other).base HB1.out.size⟩, (HB1.out.trans (hd.mono HB1.out.size)).trans ((al_below w1.drew _).mono HB1.out.size)⟩
    · have e9 : (t.kind == 9) = false := by simp; omega
      have HV := Lib.hid (bnd_oth h6 h8 h9)
      clear h6 h8 h9
      go_wp2_with fail
      go_ret
      exact ⟨_, rfl, Or.inl ⟨HV.out, rfl⟩, HB1.out⟩
end Go.Proofs.YtingnigiijdllaaDoor
namespace Go.Proofs.YtingnigiijdllaaDoor
open Go Go.RowKit

theorem At9.keep {w w' : World} {b o : Nat} {t : Tm} {tp rp p : Option Addr} {tc rc c : Nat} (h : At9 w b o t tp tc rp rc p c) (hb : w'.heap[b]? = w.heap[b]?) : At9 w' b o t tp tc rp rc p c := by
  have k : ∀ i, w'.cell? ⟨b, i, none⟩ = w.cell? ⟨b, i, none⟩ := fun i => World.cell?_of_block (a := ⟨b, i, none⟩) hb
  exact ⟨(k _).trans h.kind, (k _).trans h.name, (k _).trans h.other, (k _).trans h.n, (k _).trans h.tk, (k _).trans h.ta, (k _).trans h.rk, (k _).trans h.ra, (k _).trans h.args⟩
def TermAt (w : World) (C : Nat → Prop) (t : Tm) (b o : Nat) : Prop := ∃ (tp : Option Addr) (tc : Nat) (rp : Option Addr) (rc : Nat) (p : Option Addr) (c : Nat), C b ∧ b < w.heap.size ∧ At9 w b o t tp tc rp rc p c ∧ TM' w C t tp tc rp rc p c
theorem TermAt.stays {w w' : World} {C : Nat → Prop} {t : Tm} {b o : Nat} (h : TermAt w C t b o) (hs : Stays C w w') : TermAt w' C t b o := by
  obtain ⟨tp, tc, rp, rc, p, c, h1, h2, h3, h4⟩ := h
  exact ⟨tp, tc, rp, rc, p, c, h1, Nat.lt_of_lt_of_le h2 hs.1, h3.keep (hs.2 b h1 h2), h4.stays hs⟩
def NamesAt (w : World) (Z : Nat → Prop) (xs : List ByteArray) (s : Value) : Prop := (xs = [] ∧ s = .slice none 0 0) ∨
  (xs ≠ [] ∧ ∃ g cap, s = .slice (some ⟨g, 0, none⟩) xs.length cap ∧ Z g ∧ g < w.heap.size ∧ ∀ j x, xs[j]? = some x → w.cell? ⟨g, j, none⟩ = some (.string x))
theorem NamesAt.stays {w w' : World} {Z : Nat → Prop} {xs : List ByteArray} {s : Value} (h : NamesAt w Z xs s) (hs : Stays Z w w') : NamesAt w' Z xs s := by
  rcases h with h | ⟨h0, g, cap, h1, h2, h3, h4⟩
  · exact Or.inl h
  · exact Or.inr ⟨h0, g, cap, h1, h2, Nat.lt_of_lt_of_le h3 hs.1, fun j x hj => (World.cell?_of_block (a := ⟨g, j, none⟩) (hs.2 g h2 h3)).trans (h4 j x hj)⟩
theorem NamesAt.mono {w : World} {Z Z' : Nat → Prop} {xs : List ByteArray} {s : Value} (h : NamesAt w Z xs s) (hz : ∀ z, Z z → z < w.heap.size → Z' z) : NamesAt w Z' xs s := by
  rcases h with h | ⟨h0, g, cap, h1, h2, h3, h4⟩
  · exact Or.inl h
  · exact Or.inr ⟨h0, g, cap, h1, hz g h2 h3, h3, h4⟩
theorem NmV.at {w : World} {base : Nat} {xs : List ByteArray} {v : Value} (h : NmV w base xs v) : NamesAt w (fun z => base ≤ z) xs v := by
  rcases h with h | ⟨h0, h⟩
  · exact Or.inl h
  · rcases h.2 with ⟨_, h1⟩ | ⟨g, cap, cur, rfl, hg, hblk, h2, h3, h4, h5⟩
    · exact absurd (List.eq_nil_of_length_eq_zero h1) h0
    · refine Or.inr ⟨h0, g, cap, rfl, hg, (Array.getElem?_eq_some_iff.1 hblk).1, fun j x hj => ?_⟩
      have hl := (List.getElem?_eq_some_iff.1 hj).1
      rw [cell_of_blk hblk j, ← Array.getElem?_toList]
      have : (xs.map Value.string)[j]? = some (.string x) := by rw [List.getElem?_map, hj]; rfl
      rw [← h5, List.getElem?_take, if_pos (by omega)] at this
      exact this
def LQ (w : World) (C Z : Nat → Prop) (l : List (Tm × List ByteArray)) (v : Value) : Prop := ∃ (q : Option Addr) (c : Nat), v = .slice q l.length c ∧ l.length ≤ c ∧ c ≤ maxLen ∧
  ∀ (j : Nat) (hj : j < l.length), ∃ (g o b1 o1 : Nat) (s : Value), q = some ⟨g, o, none⟩ ∧ Z g ∧ g < w.heap.size ∧ w.cell? ⟨g, o + j * 2, none⟩ = some (.pointer (some ⟨b1, o1, none⟩)) ∧ w.cell? ⟨g, o + j * 2 + 1, none⟩ = some s ∧ TermAt w C l[j].1 b1 o1 ∧ NamesAt w Z l[j].2 s
theorem LQ.stays {w w' : World} {C Z : Nat → Prop} {l : List (Tm × List ByteArray)} {v : Value} (h : LQ w C Z l v) (hc : Stays C w w') (hz : Stays Z w w') : LQ w' C Z l v := by
  obtain ⟨q, c, h1, h2, h3, h4⟩ := h
  refine ⟨q, c, h1, h2, h3, fun j hj => ?_⟩
  obtain ⟨g, o, b1, o1, s, e1, e2, e3, e4, e5, e6, e7⟩ := h4 j hj
  exact ⟨g, o, b1, o1, s, e1, e2, Nat.lt_of_lt_of_le e3 hz.1, (World.cell?_of_block (a := ⟨g, o + j * 2, none⟩) (hz.2 g e2 e3)).trans e4, (World.cell?_of_block (a := ⟨g, o + j * 2 + 1, none⟩) (hz.2 g e2 e3)).trans e5, e6.stays hc, e7.stays hz⟩
theorem LQ.mono {w : World} {C Z Z' : Nat → Prop} {l : List (Tm × List ByteArray)} {v : Value} (h : LQ w C Z l v) (hz : ∀ z, Z z → z < w.heap.size → Z' z) : LQ w C Z' l v := by
  obtain ⟨q, c, h1, h2, h3, h4⟩ := h
  refine ⟨q, c, h1, h2, h3, fun j hj => ?_⟩
  obtain ⟨g, o, b1, o1, s, e1, e2, e3, e4, e5, e6, e7⟩ := h4 j hj
  exact ⟨g, o, b1, o1, s, e1, hz g e2 e3, e3, e4, e5, e6, e7.mono hz⟩
def partsQ (t : Tm) : List (Tm × List ByteArray) := t.sc.mapIdx fun k x => (x, t.bndAt k)
theorem partsQ_len (t : Tm) : (partsQ t).length = t.sc.length := by simp [partsQ]
theorem infoQ : (Tryd.prog.info? 103).map (fun i => (i.zero, i.size, i.bytes)) = some (some (.agg #[.pointer none, .slice none 0 0]), 2, 32) := by kernel_rfl
structure RowQ (w : World) (g n : Nat) (P : Nat → Value) (k : Nat) (s : Value) : Prop where
  blk : ∃ cur : Array Value, w.heap[g]? = some (.cells cur 103 (0, 0)) ∧ cur.size = n * 2 ∧ ∀ j, j < n → cur[j * 2]? = some (if j < k then P j else .pointer none) ∧ cur[j * 2 + 1]? = some (if j + 1 = n then s else .slice none 0 0)
section
variable {w w' : World} {g n k : Nat} {P : Nat → Value} {s : Value}
theorem RowQ.lt (h : RowQ w g n P k s) : g < w.heap.size := by
  obtain ⟨cur, hb, _⟩ := h.blk
  exact (Array.getElem?_eq_some_iff.1 hb).1
theorem RowQ.frozen (h : RowQ w g n P k s) (i : Nat) : w.frozen? ⟨g, i, none⟩ = false := by
  obtain ⟨cur, hb, _⟩ := h.blk
  exact unfrozen_of_blk hb i
theorem RowQ.ptr (h : RowQ w g n P k s) {j : Nat} (hj : j < n) : w.cell? ⟨g, j * 2, none⟩ = some (if j < k then P j else .pointer none) := by
  obtain ⟨cur, hb, _, hc⟩ := h.blk
  rw [cell_of_blk hb]; exact (hc j hj).1
theorem RowQ.nms (h : RowQ w g n P k s) {j : Nat} (hj : j < n) : w.cell? ⟨g, j * 2 + 1, none⟩ = some (if j + 1 = n then s else .slice none 0 0) := by
  obtain ⟨cur, hb, _, hc⟩ := h.blk
  rw [cell_of_blk hb]; exact (hc j hj).2
theorem RowQ.below (h : RowQ w g n P k s) (hb : Below w.heap.size w w') : RowQ w' g n P k s := by
  obtain ⟨cur, h1, h2⟩ := h.blk
  exact ⟨cur, (hb.block g h.lt).trans h1, h2⟩
theorem RowQ.next (h : RowQ w g n P k s) : RowQ (w.setCell ⟨g, k * 2, none⟩ (P k)) g n P (k + 1) s := by
  obtain ⟨cur, h1, h2, h3⟩ := h.blk
  refine ⟨cur.setIfInBounds (k * 2) (P k), Go.Joins.block_setCell h1 _, by simpa using h2, fun j hj => ?_⟩
  obtain ⟨e1, e2⟩ := h3 j hj
  rw [Array.getElem?_setIfInBounds, Array.getElem?_setIfInBounds]
  refine ⟨?_, by rw [if_neg (by omega)]; exact e2⟩
  by_cases e : k = j
  · subst e
    rw [if_pos rfl, if_pos (by omega), if_pos (by omega)]
  · rw [if_neg (by omega), e1]
    by_cases e3 : j < k
    · rw [if_pos e3, if_pos (by omega)]
    · rw [if_neg e3, if_neg (by omega)]
theorem RowQ.named (h : RowQ w g n P k s) (s' : Value) (hn : 0 < n) : RowQ (w.setCell ⟨g, (n - 1) * 2 + 1, none⟩ s') g n P k s' := by
  obtain ⟨cur, h1, h2, h3⟩ := h.blk
  refine ⟨cur.setIfInBounds ((n - 1) * 2 + 1) s', Go.Joins.block_setCell h1 _, by simpa using h2, fun j hj => ?_⟩
  obtain ⟨e1, e2⟩ := h3 j hj
  rw [Array.getElem?_setIfInBounds, Array.getElem?_setIfInBounds]
  refine ⟨by rw [if_neg (by omega)]; exact e1, ?_⟩
  by_cases e : j + 1 = n
  · rw [if_pos (by omega), if_pos (by omega), if_pos e]
  · rw [if_neg (by omega), e2, if_neg e, if_neg e]
theorem rowQ_start {base : Nat} {xs : List Value} (h : w.ownsRow base 103 2 (.slice (some ⟨g, 0, none⟩) n n) n xs) (hx : ∀ j, j < n → xs[j * 2]? = some (.pointer none) ∧ xs[j * 2 + 1]? = some (.slice none 0 0)) : RowQ w g n P 0 (.slice none 0 0) := by
  rcases h.2 with ⟨e0, e1⟩ | ⟨g', cap', cur, hv, hg, hblk, h1, h2, h3, h4⟩
  · cases e0
  · simp only [Value.slice.injEq, Option.some.injEq, Addr.mk.injEq, true_and, and_true] at hv
    obtain ⟨rfl, rfl⟩ := hv
    refine ⟨cur, hblk, h3, fun j hj => ?_⟩
    obtain ⟨e1, e2⟩ := hx j hj
    rw [← h4, List.getElem?_take, if_pos (by omega), Array.getElem?_toList] at e1 e2
    rw [if_neg (by omega)]
    exact ⟨e1, by rw [e2]; split <;> rfl⟩
end

theorem zerosQ (n j : Nat) (h : j < n) : (madeCells (#[Value.pointer none, Value.slice none 0 0]) (n * 2)).toList[j * 2]? = some (.pointer none) ∧ (madeCells (#[Value.pointer none, Value.slice none 0 0]) (n * 2)).toList[j * 2 + 1]? = some (.slice none 0 0) := by
  have h1 : j * 2 < n * 2 := by omega
  have h2 : j * 2 + 1 < n * 2 := by omega
  have e2 : (j * 2 + 1) % 2 = 1 := by omega
  constructor
  · simp [madeCells, h1]
  · simp [madeCells, h2, e2]

def ptrQ (p : Option Addr) (j : Nat) : Value := .pointer (match p with | some a => some ⟨a.block, a.off + j * 9, none⟩ | none => none)
theorem lq_fin {C : Nat → Prop} {w wf : World} {t : Tm} {tp rp p : Option Addr} {tc rc c G k : Nat} {s : Value} (hR : RowQ wf G k (ptrQ p) k s) (hG : w.heap.size ≤ G) (hm : k = t.sc.length) (hq : 0 < k → ¬ t.kind = 1) (hk : k ≤ maxLen)
    (hb : Below w.heap.size w wf) (hT : TM' w C t tp tc rp rc p c) (hs : NamesAt wf (fun z => w.heap.size ≤ z ∧ z < wf.heap.size) t.bnd s) :
    LQ wf C (fun z => w.heap.size ≤ z ∧ z < wf.heap.size) (partsQ t) (.slice (some ⟨G, 0, none⟩) k k) := by
  have hl : (partsQ t).length = k := by rw [partsQ_len]; exact hm.symm
  refine ⟨_, k, by rw [hl], by rw [hl]; exact Nat.le_refl _, hk, fun j hj => ?_⟩
  rw [hl] at hj
  have hk1 := hq (by omega)
  have hsc := sc_not hk1
  have hja : j < t.args.length := by rw [← hsc]; omega
  obtain ⟨b', o', tp', tc', rp', rc', p', c', hp, hC', hb', h9', hx'⟩ := tm_part hT.args j hja
  have hst : Stays C w wf := .of_below hb
  have e1 : (partsQ t)[j].1 = t.args[j] := by
    simp only [partsQ, List.getElem_mapIdx]
    congr 1
  have e2 : (partsQ t)[j].2 = t.bndAt j := by simp [partsQ]
  have hla : t.args.length = k := by rw [hm, hsc]
  refine ⟨G, 0, b', o' + j * 9, if j + 1 = k then s else .slice none 0 0, rfl, ⟨hG, hR.lt⟩, hR.lt, ?_, ?_, ?_, ?_⟩
  · rw [Nat.zero_add, hR.ptr hj, if_pos hj, hp]
    rfl
  · rw [Nat.zero_add, hR.nms hj]
  · rw [e1]
    exact ⟨_, _, _, _, _, _, hC', Nat.lt_of_lt_of_le hb' hb.size, h9' wf hst, hx'.stays hst⟩
  · rw [e2]
    by_cases h : j + 1 = k
    · rw [if_pos h, bndAt_yes (by omega)]
      exact hs
    · rw [if_neg h, bndAt_not (by omega)]
      exact Or.inl ⟨rfl, rfl⟩
set_option maxRecDepth 100000 in
set_option maxHeartbeats 4000000 in
theorem partsI_any {C : Nat → Prop} {w : World} {b o : Nat} {t : Tm} {s0 : Value} (h : TermAt w C t b o) (hka : KA w) (hn : t.wt ≤ 2097152) :
    Calls Tryd.prog 89 #[.agg #[.pointer (some ⟨b, o, none⟩), s0]] w fun e w' => ∃ v, e = .returned v ∧ LQ w' C (fun z => w.heap.size ≤ z ∧ z < w'.heap.size) (partsQ t) v ∧ Below w.heap.size w w' := by
  obtain ⟨i0, hi, hz0, hz1, hz2⟩ := info_parts infoQ
  obtain ⟨tp, tc, rp, rc, p, c, hC, hb, h9, hT⟩ := h
  obtain ⟨wb, hwb, hsb, hbb, rb⟩ := box_new w #[.pointer (some ⟨b, o, none⟩), s0] 103
  have HA := Lib.hid (argsSc_any (w := wb) (h9.keep (hbb.block b hb)))
  have H9 := Lib.hid h9
  have HT := Lib.hid hT
  have HW := Lib.hid (And.intro hsb (And.intro hbb rb))
  have HK := Lib.hid hka
  have HWW := Lib.hid hwb
  have hlen : t.args.length ≤ 2097152 := by have h1 := t.wt_eq; have h2 := wtS_ge t.args; omega
  have hb0 := cell_of_blk rb 0
  have hb1 := cell_of_blk rb 1
  simp only [List.getElem?_toArray, List.getElem?_cons_zero, List.getElem?_cons_succ] at hb0 hb1
  rw [← hwb] at hb0 hb1
  clear h9 hT hsb hbb rb hka hwb
  go_enter Tryd.func89, Tryd.ntmps89
  go_wp2_with fail
  rw [HWW.out]
  refine HA.out.mono ?_
  rintro e w1 ⟨rfl, rfl⟩
  clear hb0 hb1
  obtain ⟨q, m, c1, hsc⟩ : ∃ q m c1, scV t p c = .slice q m c1 ∧ m = t.sc.length ∧ (0 < m → q = p ∧ ¬ t.kind = 1) := by
    unfold scV Tm.sc
    split
    · exact ⟨_, _, _, rfl, rfl, fun h => by omega⟩
    · exact ⟨_, _, _, rfl, rfl, fun _ => ⟨rfl, by assumption⟩⟩
  obtain ⟨hsc, hm, hq⟩ := hsc
  rw [hsc]
  have hm2 : m ≤ 2097152 := by
    rw [hm]
    unfold Tm.sc
    split
    · simp
    · exact hlen
  have HM := Lib.hid hm
  have HSC := Lib.hid hsc
  have HQ := Lib.hid hq
  clear hm hsc hq
  go_wp2_with (at_make; refine wpList_make_full _ rfl _ _ 123 rfl w1.heap.size 103 i0 _ 2 Tryd.underlying123 hi hz0 hz1 .i64 .i64 _ _ m rfl rfl rfl rfl ?c1 ?c2 ?c3 ?_)
  case c1 => rw [hz2]; omega
  case c2 => unfold maxLen; omega
  case c3 => exact Nat.le_refl _
  intro w2 hown0 hg
  have hb2 : Below w1.heap.size w1 w2 := (Below.refl _ _).grown hg (Nat.le_refl _) (fun k h => by cases h)
  have HR0 := Lib.hid (rowQ_start (P := ptrQ p) hown0 (fun j hj => by
    exact zerosQ m j hj))
  clear hown0 hg
  have HB2 := Lib.hid hb2
  clear hb2
  go_wp2_with fail
  go_loopw [15] (fun i wr => ∃ k : Nat, k ≤ m ∧ i = .int .i64 k ∧ RowQ wr w1.heap.size m (ptrQ p) k (.slice none 0 0) ∧ Below w1.heap.size w1 wr) (fun i _ => m - (intOf i).toNat)
  case atStart => exact ⟨0, Nat.zero_le _, rfl, HR0.out, HB2.out⟩
  case round =>
    obtain ⟨k, hk, rfl, hrow, hbr⟩ := hrel
    have HR := Lib.hid hrow
    have HBR := Lib.hid hbr
    clear hrow hbr HR0 HB2
    by_cases hlk : k < m
    · obtain ⟨rfl, hk1⟩ := HQ.out (by omega)
      have hka2 : k < t.args.length := by
        have := HM.out
        rw [sc_not hk1] at this
        omega
      obtain ⟨b', o', tp', tc', rp', rc', p', c', rfl, hC', hb', h9', hx'⟩ := tm_part HT.out.args k hka2
      have f0 := HR.out.ptr hlk
      have fz := HR.out.frozen
      have HNX := Lib.hid HR.out.next
      have i0 : (0 : Int) ≤ (k : Int) := Int.natCast_nonneg _
      have i1 : (k : Int) < (m : Int) := by omega
      clear h9' hx' hk1 hka2
      go_wp2_with fail
      go_roundw
      case rel => exact ⟨k + 1, by omega, by go_num, HNX.out, HBR.out.setCell (p := ⟨w1.heap.size, k * 2, none⟩) (Nat.le_refl _) _⟩
      case measure => simp [intOf]; omega
    · obtain rfl : k = m := by omega
      obtain ⟨hsb, hbb, rb⟩ := HW.out
      have hbw := hbb.trans (HBR.out.mono hbb.size)
      have r2 := (HBR.out.block w.heap.size (by omega)).trans rb
      have k0 := cell_of_blk r2 0
      have k1 := cell_of_blk r2 1
      simp only [List.getElem?_toArray, List.getElem?_cons_zero, List.getElem?_cons_succ] at k0 k1
      have HN := Lib.hid (bndI_any (H9.out.keep (hbw.block b hb)) (HK.out.below hbw) hn)
      have HBW := Lib.hid hbw
      have HSB := Lib.hid hsb
      clear hsb hbb rb hbw r2
      go_wp2_with fail
      refine HN.out.mono ?_
      rintro e w3 ⟨v3, rfl, hnm, hb3⟩
      have HR3 := Lib.hid (HR.out.below hb3)
      have HB3 := Lib.hid (HBW.out.trans (hb3.mono HBW.out.size))
      have HNM := Lib.hid hnm
      have HNA := Lib.hid (hnm.at)
      have HS3 := Lib.hid hb3.size
      clear k0 k1 hb3
      rcases HNM.out with ⟨hb0, rfl⟩ | ⟨hb0, hown⟩
      · have HB0 := Lib.hid hb0
        clear hb0 hnm
        go_wp2_with fail
        go_ret
        have hsb := HSB.out
        exact ⟨_, rfl, lq_fin HR3.out (by omega) HM.out (fun h => (HQ.out h).2) (by unfold maxLen; omega) HB3.out HT.out (by rw [HB0.out]; exact Or.inl ⟨rfl, rfl⟩), HB3.out⟩
      · have hk0 : 0 < k := by
          have h1 : ¬ t.sc.length = 0 := fun h => by
            unfold Tm.sc at h
            unfold Tm.bnd at hb0
            split at h
            · rename_i h1
              rw [if_neg (fun e => by omega), if_neg (fun e => by omega), if_neg (fun e => by omega)] at hb0
              exact hb0 rfl
            · rw [if_neg (fun e => by omega), if_neg (fun e => by omega), if_neg (fun e => by omega)] at hb0
              exact hb0 rfl
          have := HM.out
          omega
        obtain ⟨pn, cn, rfl, -⟩ := hown.ss.at
        rcases HNA.out with ⟨h1, -⟩ | ⟨-, g, cap, hv, hg1, hg2, hg3⟩
        · exact absurd h1 hb0
        simp only [Value.slice.injEq, true_and] at hv
        obtain ⟨rfl, rfl⟩ := hv
        have n0 := HR3.out.nms (j := k - 1) (by omega)
        have fz := HR3.out.frozen
        have HNX := Lib.hid (HR3.out.named (.slice (some ⟨g, 0, none⟩) t.bnd.length cn) hk0)
        have e1 : (k : Int) - 1 = ((k - 1 : Nat) : Int) := by omega
        have i0 : (0 : Int) ≤ (k : Int) - 1 := by omega
        have i1 : (k : Int) - 1 < (k : Int) := by omega
        have HG3 := Lib.hid hg3
        have HB0 := Lib.hid hb0
        have HG12 := Lib.hid (And.intro hg1 hg2)
        clear hb0 hnm hown hg1 hg2 hg3
        go_wp2_with fail
        go_ret
        have hsb := HSB.out
        have hGl := HR.out.lt
        obtain ⟨hg1, hg2⟩ := HG12.out
        have hbf : Below w.heap.size w (w3.setCell ⟨w1.heap.size, (k - 1) * 2 + 1, none⟩ (.slice (some ⟨g, 0, none⟩) t.bnd.length cn)) := HB3.out.setCell (p := ⟨w1.heap.size, (k - 1) * 2 + 1, none⟩) (by show w.heap.size ≤ w1.heap.size; omega) _
        have hsz : (w3.setCell ⟨w1.heap.size, (k - 1) * 2 + 1, none⟩ (.slice (some ⟨g, 0, none⟩) t.bnd.length cn)).heap.size = w3.heap.size := by simp [World.setCell]
        have hwr := HBW.out.size
        refine ⟨_, rfl, lq_fin HNX.out (by omega) HM.out (fun h => (HQ.out h).2) (by unfold maxLen; omega) hbf HT.out (Or.inr ⟨HB0.out, g, cn, rfl, ⟨by omega, by rw [hsz]; exact hg2⟩, by rw [hsz]; exact hg2, fun j x hj => ?_⟩), hbf⟩
        rw [World.cell?_of_block (w := w3) (a := ⟨g, j, none⟩) (Below.heap_setCell _ _ _ _ (by show g ≠ w1.heap.size; omega))]
        exact HG3.out j x hj
end Go.Proofs.YtingnigiijdllaaDoor
namespace Go.Proofs.YtingnigiijdllaaDoor
open Go Go.RowKit Go.Shelf
attribute [local go_sem] Oper.semAt_some

abbrev PQ := Tm × List ByteArray
def listQ : List PQ → Nat → List (Tm × List ByteArray × Nat)
  | [], _ => []
  | e :: l, d => walkQ e.1 e.2 d ++ listQ l d
theorem walkQS_list (b : Nat → List ByteArray) : ∀ (ts : List Tm) (k d : Nat), walkQS b k ts d = listQ (ts.mapIdx fun i x => (x, b (k + i))) d
  | [], _, _ => rfl
  | t :: ts, k, d => by
    rw [walkQS, walkQS_list b ts (k + 1) d, List.mapIdx_cons]
    simp only [listQ, Nat.add_zero]
    congr 3
    funext i x
    rw [show k + 1 + i = k + (i + 1) by omega]
theorem walkQ_eq (t : Tm) (nm : List ByteArray) (d : Nat) : walkQ t nm d = (t, nm, d) :: listQ (partsQ t) (d + 1) := by
  cases t with
  | mk k a o n ty r ts =>
    rw [walkQ]
    by_cases h : k = 1
    · rw [if_pos h]
      simp [partsQ, Tm.sc, Tm.kind, h, listQ]
    · rw [if_neg h, walkQS_list]
      simp [partsQ, Tm.sc, Tm.kind, h, Tm.args]
abbrev WaitQ := List (List PQ × Value)
def rWQ : WaitQ → List (Tm × List ByteArray × Nat)
  | [] => []
  | e :: r => listQ e.1 (r.length + 1) ++ rWQ r
def stWalkQ (st : WaitQ) : List (Tm × List ByteArray × Nat) := rWQ st.reverse
theorem stWalkQ_snoc (st : WaitQ) (e : List PQ × Value) : stWalkQ (st ++ [e]) = listQ e.1 (st.length + 1) ++ stWalkQ st := by simp [stWalkQ, rWQ]
theorem wsndQ_last (st : WaitQ) (e : List PQ × Value) : ((st ++ [e]).map (·.2))[st.length]? = some e.2 := by simp
theorem wsndQ_take (st : WaitQ) (e : List PQ × Value) : ((st ++ [e]).map (·.2)).take (st.length * 1) = st.map (·.2) := by simp
theorem wsndQ_set (st : WaitQ) (e : List PQ × Value) (l : List PQ) (u : Value) : ((st ++ [e]).map (·.2)).set st.length u = (st ++ [(l, u)]).map (·.2) := by
  simp
theorem infoLQ : (Tryd.prog.info? 123).map (fun i => (i.zero, i.size, i.bytes)) = some (some (.slice none 0 0), 1, 24) := by kernel_rfl
theorem KA.stays {w w' : World} {C : Nat → Prop} (h : KA w) (hs : Stays C w w') (hC : C 1) : KA w' := by
  refine ⟨?_, Nat.lt_of_lt_of_le h.2 hs.1⟩
  have h1 := h.1
  unfold Lib.TabIs World.var? at h1 ⊢
  simp only [gKA, Option.bind_some] at h1 ⊢
  rw [hs.2 _ hC h.2]
  exact h1
theorem sc_wt (t : Tm) {x : Tm} (hx : x ∈ t.sc) : x.wt ≤ t.wt := by
  have h1 := t.wt_eq
  unfold Tm.sc at hx
  split at hx
  · simp at hx
  · obtain ⟨i, hi, rfl⟩ := List.mem_iff_getElem.1 hx
    have := wtS_at t.args i hi
    omega
theorem partsQ_wt (t : Tm) {e : PQ} (he : e ∈ partsQ t) : e.1.wt ≤ t.wt := by
  unfold partsQ at he
  obtain ⟨i, hi, rfl⟩ := List.mem_mapIdx.1 he
  exact sc_wt t (List.getElem_mem _)
theorem LQ.form {w : World} {C Z : Nat → Prop} {l : List PQ} {v : Value} (h : LQ w C Z l v) : ∃ q c, v = .slice q l.length c := by
  obtain ⟨q, c, h1, _⟩ := h
  exact ⟨q, c, h1⟩
theorem NamesAt.own {w : World} {Z : Nat → Prop} {xs : List ByteArray} {s : Value} (h : NamesAt w Z xs s) : NamesAt w (fun z => s.ownBlock = some z) xs s ∧ ∀ z, s.ownBlock = some z → Z z := by
  rcases h with ⟨h0, rfl⟩ | ⟨h0, g, cap, rfl, h2, h3, h4⟩
  · exact ⟨Or.inl ⟨h0, rfl⟩, fun z hz => by cases hz⟩
  · exact ⟨Or.inr ⟨h0, g, cap, rfl, rfl, h3, h4⟩, fun z hz => by cases hz; exact h2⟩
theorem LQ.open {w : World} {C Z : Nat → Prop} {x : PQ} {l : List PQ} {v : Value} (h : LQ w C Z (x :: l) v) :
    ∃ (b o c b1 o1 : Nat) (s : Value), v = .slice (some ⟨b, o, none⟩) (l.length + 1) c ∧ l.length + 1 ≤ c ∧ c ≤ maxLen ∧ Z b ∧ b < w.heap.size ∧ w.cell? ⟨b, o, none⟩ = some (.pointer (some ⟨b1, o1, none⟩)) ∧ w.cell? ⟨b, o + 1, none⟩ = some s ∧
      TermAt w C x.1 b1 o1 ∧ NamesAt w Z x.2 s ∧ ∀ q, (l ≠ [] → q = some ⟨b, o + 2, none⟩) → LQ w C Z l (.slice q l.length (c - 1)) := by
  obtain ⟨q, c, rfl, h2, h3, h4⟩ := h
  obtain ⟨b, o, b1, o1, s, rfl, e2, e3, e4, e5, e6, e7⟩ := h4 0 (by simp)
  simp only [List.length_cons] at h2
  refine ⟨b, o, c, b1, o1, s, rfl, h2, h3, e2, e3, by simpa using e4, by simpa using e5, e6, e7, fun q hq => ⟨q, c - 1, rfl, by omega, by omega, fun j hj => ?_⟩⟩
  obtain ⟨b', o', b1', o1', s', f1, f2, f3, f4, f5, f6, f7⟩ := h4 (j + 1) (by simp; omega)
  simp only [Option.some.injEq, Addr.mk.injEq, and_true] at f1
  obtain ⟨rfl, rfl⟩ := f1
  refine ⟨b, o + 2, b1', o1', s', hq (fun e => by rw [e] at hj; simp at hj), f2, f3, ?_, ?_, by simpa using f6, by simpa using f7⟩
  · rw [show o + 2 + j * 2 = o + (j + 1) * 2 by omega]; exact f4
  · rw [show o + 2 + j * 2 + 1 = o + (j + 1) * 2 + 1 by omega]; exact f5

abbrev QI := Tm × List ByteArray × Nat
abbrev QA := QI × (Nat × Nat × Value)
abbrev encQ (x : QA) : Array Value := #[.agg #[.pointer (some ⟨x.2.1, x.2.2.1, none⟩), x.2.2.2], .int .i64 (x.1.2.2 : Nat)]
abbrev keyQ (x : QA) : QI := x.1
def GoodQ (C : Nat → Prop) (x : QA) (Y : Nat → Prop) (W : World) : Prop := TermAt W C x.1.1 x.2.1 x.2.2.1 ∧ NamesAt W Y x.1.2.1 x.2.2.2 ∧ ∀ z, Y z → x.2.2.2.ownBlock = some z
structure MidQ (W wr : World) (C : Nat → Prop) (J : List QI → (Nat → Prop) → (Nat → Prop) → World → Prop) (B N Z : Nat → Prop) (pre : List QI) (st : WaitQ) (g cap : Nat) : Prop where
  own : wr.ownsRow (W.heap.size + 1) 123 1 (.slice (some ⟨g, 0, none⟩) st.length cap) st.length (st.map (·.2))
  j : J pre B N wr
  ls : ∀ e ∈ st, LQ wr C Z e.1 e.2
  wts : ∀ e ∈ st, ∀ y ∈ e.1, y.1.wt ≤ 2097152
  stays : Stays C W wr
  size : W.heap.size ≤ wr.heap.size
  cnt : st.length ≤ pre.length + 1
  zg : ∀ z, Z z → z < wr.heap.size ∧ z ≠ g ∧ ¬ B z
  bl : ∀ b, B b → b < wr.heap.size ∧ b ≠ g ∧ ¬ C b
  nz : ∀ z, N z → Z z
end Go.Proofs.YtingnigiijdllaaDoor
namespace Go.Proofs.YtingnigiijdllaaDoor
open Go Go.RowKit Go.Shelf
attribute [local go_sem] Oper.semAt_some

set_option maxRecDepth 100000 in
set_option maxHeartbeats 4000000 in
theorem nodesQ_it (l Bt Bp : Nat) (t : Tm) (b0 o0 : Nat) (C B0 : Nat → Prop) (W : World) (J Jx : List QI → (Nat → Prop) → (Nat → Prop) → World → Prop)
    (hBt : W.heap[Bt]? = some (.cells #[.pointer (some ⟨b0, o0, none⟩), .slice none 0 0] 103 (0, 0))) (hBp : W.heap[Bp]? = some (.cells #[.func (.func 89) #[] #[]] 104 (0, 0))) (hT : TermAt W C t b0 o0) (hn : t.wt ≤ 2097152)
    (hka : KA W) (hkc : C 1) (hC : ∀ b, C b → b < W.heap.size) (hCB : ∀ b, C b → ¬ B0 b) (hB0 : ∀ b, B0 b → b < W.heap.size) (hCp : C Bp)
    (hJ : ∀ pre B N A A', J pre B N A → Keep W.heap.size (fun z => B z ∨ N z) A A' → J pre B N A')
    (hY : ∀ pre x Y B N W1, J pre B N W1 → pre ++ [keyQ x] <+: walkQ t [] 1 → GoodQ C x Y W1 → (∀ z, Y z → ¬ B z) → YieldAt Fence.wide 0 Tryd.prog l (encQ x) W1 fun e W' =>
      ∃ B' N', Grew B B' W1.heap.size W'.heap.size ∧ (∀ z, N' z → N z ∨ Y z) ∧ ((e = .returned (.bool true) ∧ J (pre ++ [keyQ x]) B' N' W' ∧ Holds B W1 W') ∨ (e = .returned (.bool false) ∧ Jx (pre ++ [keyQ x]) B' N' W' ∧ Holds B W1 W')))
    (h0 : J [] B0 (fun _ => False) W) :
    CallsIn Fence.wide 1 Tryd.prog 101 #[.func (.yield l) #[] #[], .pointer (some ⟨Bt, 0, none⟩), .pointer (some ⟨Bp, 0, none⟩)] W fun e W' =>
      (∃ v, e = .returned v) ∧ ((∃ B' N', J (walkQ t [] 1) B' N' W') ∨ ∃ pre B' N', pre <+: walkQ t [] 1 ∧ Jx pre B' N' W') := by
  obtain ⟨i0, hi, hz0, hz1, hz2⟩ := info_parts infoLQ
  have HT := Lib.hid hT
  have HY := Lib.hid hY
  have HJ := Lib.hid hJ
  have HJ0 := Lib.hid h0
  have HB0 := Lib.hid hB0
  have HC := Lib.hid hC
  have HCB := Lib.hid hCB
  have HCP := Lib.hid hCp
  have HBP := Lib.hid hBp
  have HN := Lib.hid hn
  have HKA := Lib.hid hka
  have HKC := Lib.hid hkc
  have k0 := cell_of_blk hBt 0
  have k1 := cell_of_blk hBt 1
  have kp := cell_of_blk hBp 0
  simp only [List.getElem?_toArray, List.getElem?_cons_zero, List.getElem?_cons_succ] at k0 k1 kp
  have hlen1 : (walkQ t [] 1).length ≤ 2097153 := Nat.le_trans (walkQ_nodes t [] 1) (by have := t.nodes_wt; omega)
  have HLN := Lib.hid hlen1
  clear hT hY hJ h0 hB0 hC hCB hBt hBp hn hka hkc hlen1 hCp
  refine callsIn_of_wp Tryd.func101 rfl trivial ?_ rfl
  simp only [Tryd.ntmps101, List.size_toArray, List.length_cons, List.length_nil, Nat.reduceAdd, Nat.reduceSub, Array.replicate_succ, Array.replicate_zero, List.push_toArray, List.append_toArray, List.nil_append, List.cons_append]
  gi_wp2_with fail
  gi_loopg [4] (2 * (walkQ t [] 1).length + 1) (fun k v wr => ∃ (pre : List QI) (st : WaitQ) (g cap : Nat) (B N Z : Nat → Prop), v = .slice (some ⟨g, 0, none⟩) st.length cap ∧ k = 2 * (stWalkQ st).length + st.length ∧ pre ++ stWalkQ st = walkQ t [] 1 ∧ MidQ W wr C J B N Z pre st g cap)
  case atStart =>
    refine ⟨[], [([(t, [])], .slice (some ⟨W.heap.size, 0, none⟩) 1 1)], W.heap.size + 1, 1, B0, fun _ => False, fun z => z = W.heap.size, rfl, by simp [stWalkQ, rWQ, listQ], by simp [stWalkQ, rWQ, listQ], ?_⟩
    have hb : Below W.heap.size W ((W.alloc (.cells #[.pointer (some ⟨b0, o0, none⟩), .slice none 0 0] 103)).alloc (.cells #[.slice (some ⟨W.heap.size, 0, none⟩) 1 1] 123)) := ((Below.refl _ W).alloc (Nat.le_refl _) _).alloc (by simp) _
    have hroot : ((W.alloc (.cells #[.pointer (some ⟨b0, o0, none⟩), .slice none 0 0] 103)).alloc (.cells #[.slice (some ⟨W.heap.size, 0, none⟩) 1 1] 123)).heap[W.heap.size]? = some (.cells #[.pointer (some ⟨b0, o0, none⟩), .slice none 0 0] 103 (0, 0)) := by
      rw [Below.heap_alloc _ _ _ (by simp)]
      exact blk_new _ _
    refine ⟨?_, HJ.out _ _ _ _ _ HJ0.out (.of_below (Nat.le_refl _) hb), fun e he => ?_, fun e he y hy => ?_, .of_below hb, hb.size, by simp, fun z hz => ?_, fun b hb' => ?_, fun z hz => hz.elim⟩
    · have h1 := World.ownsRow_lit (base := W.heap.size + 1) (e := 123) (size := 1) (W.alloc (.cells #[.pointer (some ⟨b0, o0, none⟩), .slice none 0 0] 103)) #[.slice (some ⟨W.heap.size, 0, none⟩) 1 1] 1 (by simp) (by unfold maxLen; omega) rfl
      rw [show (W.alloc (.cells #[.pointer (some ⟨b0, o0, none⟩), .slice none 0 0] 103)).heap.size = W.heap.size + 1 by simp] at h1
      exact h1
    · simp only [List.mem_singleton] at he
      subst he
      refine ⟨_, 1, rfl, by simp, by unfold maxLen; omega, fun j hj => ?_⟩
      have hj0 : j = 0 := by simp at hj; exact hj
      subst hj0
      exact ⟨W.heap.size, 0, b0, o0, .slice none 0 0, rfl, rfl, (Array.getElem?_eq_some_iff.1 hroot).1, cell_of_blk hroot 0, cell_of_blk hroot 1, HT.out.stays (.of_below hb), Or.inl ⟨rfl, rfl⟩⟩
    · simp only [List.mem_singleton] at he
      subst he
      simp only [List.mem_singleton] at hy
      subst hy
      exact HN.out
    · subst hz
      exact ⟨(Array.getElem?_eq_some_iff.1 hroot).1, by omega, fun h => by have := HB0.out _ h; omega⟩
    · have := HB0.out b hb'
      exact ⟨Nat.lt_of_lt_of_le this hb.size, by omega, fun h => HCB.out b h hb'⟩
  case round =>
    rename World => wo
    obtain ⟨pre, st, g, cap, B, N, Z, rfl, rfl, hord, hM⟩ := hrel
    rcases snoc_cases st with rfl | ⟨st0, ⟨ls, sl⟩, rfl⟩
    · have HM := Lib.hid hM
      have HO := Lib.hid hord
      clear hM hord
      gi_wp2
      go_end0
      have hp : pre = walkQ t [] 1 := by have := HO.out; simpa [stWalkQ, rWQ] using this
      exact ⟨⟨_, rfl⟩, .inl ⟨B, N, hp ▸ HM.out.j⟩⟩
    · have hlen : (st0 ++ [((ls, sl) : List PQ × Value)]).length = st0.length + 1 := by simp
      have hown := hM.own
      rw [hlen] at hown
      rw [hlen]
      obtain ⟨hcap1, hcap2, hg1, hg2⟩ := row_cap hown
      have k0 := (hown.cellAt st0.length (by omega)).trans (wsndQ_last st0 _)
      have kz := hown.frozenAt st0.length
      simp only at k0
      unfold maxLen at hcap2
      have i0' : (0 : Int) ≤ (st0.length : Int) := Int.natCast_nonneg _
      have i1' : (st0.length : Int) < ((st0.length : Int) + 1) := by omega
      have hcnt : st0.length ≤ 2097154 := by
        have h1 := hM.cnt
        have h2 := congrArg List.length hord
        have h3 := HLN.out
        rw [List.length_append] at h2
        rw [hlen] at h1
        omega
      cases ls with
      | nil =>
        have HM := Lib.hid hM
        have HO := Lib.hid hord
        have HOWN := Lib.hid hown
        obtain ⟨a, c0, hsl⟩ : ∃ a c, sl = .slice a 0 c := (hM.ls ([], sl) (by simp)).form
        subst hsl
        clear hM hord hown
        gi_wp2_with fail
        go_roundg (2 * (stWalkQ st0).length + st0.length)
        case rel =>
          have h1 := row_take HOWN.out (Nat.le_succ st0.length)
          rw [wsndQ_take] at h1
          refine ⟨pre, st0, g, cap, B, N, Z, rfl, rfl, by have := HO.out; rwa [stWalkQ_snoc] at this, h1, HM.out.j, fun e he => HM.out.ls e (List.mem_append_left _ he), fun e he => HM.out.wts e (List.mem_append_left _ he), HM.out.stays, HM.out.size, ?_, HM.out.zg, HM.out.bl, HM.out.nz⟩
          have := HM.out.cnt
          rw [List.length_append] at this
          omega
        case measure =>
          rw [stWalkQ_snoc, List.length_append, List.length_append]
          simp only [listQ, List.length_nil, List.length_singleton]
          omega
      | cons x ls =>
        obtain ⟨b, o, c0, b1, o1, sv, rfl, hlc, hc63, hZb, hbw, f0, f1, htm, hnm, htail⟩ := (hM.ls (x :: ls, sl) (by simp)).open
        have hbg : b ≠ g := (hM.zg b hZb).2.1
        obtain ⟨q, hq⟩ : ∃ q, (if c0 = 1 then some (⟨b, o, none⟩ : Addr) else some ⟨b, o + 2, none⟩) = q := ⟨_, rfl⟩
        have htl : LQ wo C Z ls (.slice q ls.length (c0 - 1)) := htail q (fun hne => by
          have h1 : 1 ≤ ls.length := by cases ls with | nil => exact absurd rfl hne | cons => simp
          rw [← hq, if_neg (by omega)])
        obtain ⟨hst, hgr⟩ := hown.stored st0.length (.slice q ls.length (c0 - 1))
        rw [wsndQ_set st0 _ ls] at hst
        have hb1 : Below (W.heap.size + 1) wo (wo.setCell ⟨g, st0.length, none⟩ (.slice q ls.length (c0 - 1))) := (Below.refl _ wo).setCell (p := ⟨g, st0.length, none⟩) hg1 _
        have hoth : ∀ z, z ≠ g → (wo.setCell ⟨g, st0.length, none⟩ (.slice q ls.length (c0 - 1))).heap[z]? = wo.heap[z]? := fun z hz => Below.heap_setCell _ _ _ _ hz
        have hsC : Stays C wo (wo.setCell ⟨g, st0.length, none⟩ (.slice q ls.length (c0 - 1))) := ⟨hb1.size, fun z hz _ => hoth z (by have := HC.out z hz; omega)⟩
        have hsZ : Stays Z wo (wo.setCell ⟨g, st0.length, none⟩ (.slice q ls.length (c0 - 1))) := ⟨hb1.size, fun z hz _ => hoth z (hM.zg z hz).2.1⟩
        have hpre : pre ++ [(x.1, x.2, st0.length + 1)] <+: walkQ t [] 1 := ⟨listQ (partsQ x.1) (st0.length + 1 + 1) ++ (listQ ls (st0.length + 1) ++ stWalkQ st0), by rw [← hord, stWalkQ_snoc]; simp only [listQ, walkQ_eq, List.cons_append, List.append_assoc, List.nil_append]⟩
        obtain ⟨hnmo, hnmz⟩ := (hnm.stays hsZ).own
        obtain ⟨fn, tmps, assign, body, hy, hR⟩ := HY.out pre ((x.1, x.2, st0.length + 1), (b1, o1, sv)) (fun z => sv.ownBlock = some z) B N _ (HJ.out _ _ _ _ _ hM.j ⟨hb1.mono (by omega), fun z hz _ => hoth z (by
          rcases hz with hz | hz
          · exact (hM.bl z hz).2.1
          · exact (hM.zg z (hM.nz z hz)).2.1)⟩) hpre ⟨htm.stays hsC, hnmo, fun z hz => hz⟩ (fun z hz => (hM.zg z (hnmz z hz)).2.2)
        simp only [encQ] at hy
        rw [show ((st0.length + 1 : Nat) : Int) = (st0.length : Int) + 1 from rfl] at hy
        have HM := Lib.hid hM
        have HO := Lib.hid hord
        have HST := Lib.hid hst
        have HB1 := Lib.hid hb1
        have HSC := Lib.hid hsC
        have HSZ := Lib.hid hsZ
        have HPRE := Lib.hid hpre
        have HR := Lib.hid hR
        have HTL := Lib.hid htl
        have HTM := Lib.hid htm
        have HNZ := Lib.hid hnmz
        have HF := Lib.hid (And.intro f0 f1)
        have HZB := Lib.hid hZb
        have HQ := Lib.hid hlc
        have HOT := Lib.hid hoth
        have hl1 : (1 : Int) ≤ ((ls.length : Int) + 1) := by omega
        unfold maxLen at hc63
        clear hM hord hown hst hgr hb1 hsC hsZ hpre hR htl htail htm hnm hnmo hnmz hZb hoth
        gi_wp2_with fail
        refine HR.out.mono ?_
        rintro e W3 ⟨B', N', hgrew, hN', ⟨rfl, hJ3, hH3⟩ | ⟨rfl, hJx3, -⟩⟩
        · have hs1 : (wo.setCell ⟨g, st0.length, none⟩ (.slice q ls.length (c0 - 1))).heap.size = wo.heap.size := by simp [World.setCell]
          rw [hs1] at hgrew
          have hs3 : wo.heap.size ≤ W3.heap.size := hs1 ▸ hH3.1
          have hgB : ¬ B g := fun h => (HM.out.bl g h).2.1 rfl
          have hkz : ∀ z, ¬ B z → z ≠ g → z < wo.heap.size → W3.heap[z]? = wo.heap[z]? := fun z h1 h2 h3 => (hH3.2 z (by rw [hs1]; exact h3) h1).trans (HOT.out z h2)
          have hC3 : Stays C wo W3 := ⟨hs3, fun z hz hl => hkz z (fun h => (HM.out.bl z h).2.2 hz) (by have := HC.out z hz; omega) hl⟩
          have hZ3 : Stays Z wo W3 := ⟨hs3, fun z hz hl => hkz z (HM.out.zg z hz).2.2 (HM.out.zg z hz).2.1 hl⟩
          have hCW : Stays C W W3 := HM.out.stays.trans hC3
          have hb3 : W3.heap[b]? = wo.heap[b]? := hkz b (HM.out.zg b HZB.out).2.2 hbg hbw
          have hown3 := row_of_block HST.out (hH3.2 g (by rw [hs1]; exact hg2) hgB)
          have hlen3 : (st0 ++ [(ls, Value.slice q ls.length (c0 - 1))]).length = st0.length + 1 := by simp
          have hM3 : MidQ W W3 C J B' N' Z (pre ++ [(x.1, x.2, st0.length + 1)]) (st0 ++ [(ls, .slice q ls.length (c0 - 1))]) g cap := by
            refine ⟨?_, hJ3, fun e he => ?_, fun e he y hy => ?_, hCW, Nat.le_trans HM.out.size hs3, ?_, fun z hz => ?_, fun z hz => ?_, fun z hz => ?_⟩
            · rw [hlen3]; exact hown3
            · rcases List.mem_append.1 he with he | he
              · exact (HM.out.ls e (List.mem_append_left _ he)).stays hC3 hZ3
              · simp only [List.mem_singleton] at he
                subst he
                exact HTL.out.stays hC3 hZ3
            · rcases List.mem_append.1 he with he | he
              · exact HM.out.wts e (List.mem_append_left _ he) y hy
              · simp only [List.mem_singleton] at he
                subst he
                exact HM.out.wts (x :: ls, _) (List.mem_append_right _ (List.mem_singleton.2 rfl)) y (List.mem_cons_of_mem _ hy)
            · have := HM.out.cnt
              rw [hlen] at this
              rw [hlen3, List.length_append, List.length_singleton]
              omega
            · obtain ⟨h1, h2, h3⟩ := HM.out.zg z hz
              exact ⟨Nat.lt_of_lt_of_le h1 hs3, h2, fun h => ((hgrew z h).1).elim h3 (fun h => by omega)⟩
            · obtain ⟨h1, h2⟩ := hgrew z hz
              rcases h1 with h1 | h1
              · exact ⟨h2, (HM.out.bl z h1).2⟩
              · exact ⟨h2, by omega, fun h => by have := HC.out z h; have := HM.out.size; omega⟩
            · rcases hN' z hz with h1 | h1
              · exact HM.out.nz z h1
              · exact HNZ.out z h1
          obtain ⟨f0, f1⟩ := HF.out
          have g0 := (World.cell?_of_block (a := ⟨b, o, none⟩) hb3).trans f0
          have g1 := (World.cell?_of_block (a := ⟨b, o + 1, none⟩) hb3).trans f1
          have kp3 := cell_of_blk ((hCW.2 Bp HCP.out (HC.out Bp HCP.out)).trans HBP.out) 0
          simp only [List.getElem?_toArray, List.getElem?_cons_zero] at kp3
          have HK3 := Lib.hid (HKA.out.stays hCW HKC.out)
          have HT3 := Lib.hid (HTM.out.stays hC3)
          have HXW := Lib.hid (HM.out.wts (x :: ls, _) (List.mem_append_right _ (List.mem_singleton.2 rfl)) x (by simp))
          have HM3 := Lib.hid hM3
          have HOWN3 := Lib.hid hown3
          have hsz3 : W.heap.size + 1 ≤ W3.heap.size := by omega
          have HCN := Lib.hid HM.out.cnt
          clear hJ3 hH3 hown3 hM3 hy HR k0 kz hb3 hkz hC3 hZ3 hCW f0 f1 HB1 HST HSC HSZ hgrew hN' hs1
          gi_wp2_with fail
          refine wpIn_wide.2 ?_
          go_region_law (first
            | (refine step_app1 (w0 := w1) (base := W.heap.size + 1) (v := .slice (some ⟨g, 0, none⟩) (st0.length + 1) cap) (n := st0.length + 1) (xs := (st0 ++ [(ls, Value.slice q ls.length (c0 - 1))]).map (·.2)) (cs := [.slice vq (partsQ x.1).length vc]) rfl (.tmp 40) (.tmp 46) rfl Tryd.underlying124 hi hz0 hz1 hz2 rfl (by decide) rfl (row_below HOWN3.out ((Below.refl W3.heap.size W3).drew.trans hb1)) _ rfl (by simp) rfl (fun u hu => by simp at hu; subst hu; rfl) (by unfold maxLen; omega) (by omega) (by have := hb1.size; simp at this; omega) ?_; intro w' g2 cap2 hA)
            | (go_simp; go_at_call 89; refine (partsI_any (C := C) (HT3.out.stays (.of_below ((Below.refl W3.heap.size W3).drew))) (HK3.out.below ((Below.refl W3.heap.size W3).drew)) HXW.out).mono ?_; rintro e w1 ⟨v, rfl, hlq, hb1⟩; obtain ⟨vq, vc, rfl⟩ := hlq.form))
          all_goals
            have HA := Lib.hid hA
            have HB := Lib.hid hb1
            have HL := Lib.hid hlq
            clear hA hb1 hlq
            gi_wp2_with fail
            go_roundg (2 * (stWalkQ ((st0 ++ [(ls, Value.slice q ls.length (c0 - 1))]) ++ [(partsQ x.1, .slice vq (partsQ x.1).length vc)])).length + (st0.length + 2))
            case rel =>
              have hb3 : Below W3.heap.size W3 w1 := (Below.refl W3.heap.size W3).drew.trans HB.out
              have hlen3 : (st0 ++ [(ls, Value.slice q ls.length (c0 - 1))]).length = st0.length + 1 := by simp
              have hg3 := (row_cap HOWN3.out).2.2
              have hs3 := hb3.size
              have hs4 := HA.out.size
              have hbw : Below (W.heap.size + 1) W3 w' := (hb3.mono (by omega)).trans HA.out.below
              have hown1 : ∀ z, z ≠ g → (Value.slice (some ⟨g, 0, none⟩) (st0.length + 1) cap).ownBlock ≠ some z := fun z hz e => hz (by simp only [Value.ownBlock, Option.some.injEq] at e; exact e.symm)
              have hk1 : ∀ z, z ≠ g → z < w1.heap.size → w'.heap[z]? = w1.heap[z]? ∧ g2 ≠ z := fun z hz hl => HA.out.kept z hl (hown1 z hz)
              have hk : ∀ z, z ≠ g → z < W3.heap.size → w'.heap[z]? = W3.heap[z]? := fun z hz hl => (hk1 z hz (Nat.lt_of_lt_of_le hl hs3)).1.trans (hb3.block z hl)
              have hCg : ∀ z, C z → z ≠ g := fun z hz => by have := HC.out z hz; omega
              have hCw : Stays C W3 w' := ⟨Nat.le_trans hs3 hs4, fun z hz hl => hk z (hCg z hz) hl⟩
              have hZw : Stays Z W3 w' := ⟨Nat.le_trans hs3 hs4, fun z hz hl => hk z (HM3.out.zg z hz).2.1 hl⟩
              have hC1 : Stays C w1 w' := ⟨hs4, fun z hz hl => (hk1 z (hCg z hz) hl).1⟩
              refine ⟨pre ++ [(x.1, x.2, st0.length + 1)], (st0 ++ [(ls, .slice q ls.length (c0 - 1))]) ++ [(partsQ x.1, .slice vq (partsQ x.1).length vc)], g2, cap2, B', N', fun z => Z z ∨ (W3.heap.size ≤ z ∧ z < w1.heap.size), by rw [List.length_append, hlen3]; rfl, by rw [List.length_append, hlen3]; rfl, ?_, ?_⟩
              · rw [stWalkQ_snoc, hlen3, stWalkQ_snoc, ← HO.out, stWalkQ_snoc]
                simp only [listQ, walkQ_eq, List.cons_append, List.append_assoc, List.nil_append]
              · refine ⟨?_, HJ.out _ _ _ _ _ HM3.out.j ⟨hbw.mono (by omega), fun z hz hl => hk z ?_ hl⟩, fun e he => ?_, fun e he y hy => ?_, HM3.out.stays.trans hCw, by have := HM3.out.size; omega, ?_, fun z hz => ?_, fun z hz => ?_, fun z hz => Or.inl (HM3.out.nz z hz)⟩
                · rw [List.map_append, List.length_append, hlen3]
                  exact HA.out.own
                · rcases hz with hz | hz
                  · exact (HM3.out.bl z hz).2.1
                  · exact (HM3.out.zg z (HM3.out.nz z hz)).2.1
                · rcases List.mem_append.1 he with he | he
                  · exact ((HM3.out.ls e he).stays hCw hZw).mono (fun z hz _ => Or.inl hz)
                  · simp only [List.mem_singleton] at he
                    subst he
                    exact (HL.out.stays hC1 ⟨hs4, fun z hz hl => (hk1 z (by have := hz.1; simp at this; omega) hl).1⟩).mono (fun z hz _ => Or.inr (by simpa using hz))
                · rcases List.mem_append.1 he with he | he
                  · exact HM3.out.wts e he y hy
                  · simp only [List.mem_singleton] at he
                    subst he
                    exact Nat.le_trans (partsQ_wt x.1 hy) HXW.out
                · have := HCN.out
                  rw [hlen] at this
                  simp only [List.length_append, List.length_cons, List.length_nil]
                  omega
                · rcases hz with hz | hz
                  · obtain ⟨h1, h2, h3⟩ := HM3.out.zg z hz
                    exact ⟨by omega, fun e => (hk1 z h2 (by omega)).2 e.symm, h3⟩
                  · exact ⟨by omega, fun e => (hk1 z (by omega) hz.2).2 e.symm, fun h => by have := (HM3.out.bl z h).1; omega⟩
                · obtain ⟨h1, h2, h3⟩ := HM3.out.bl z hz
                  exact ⟨by omega, fun e => (hk1 z h2 (by omega)).2 e.symm, h3⟩
            case measure =>
              have h1 := HO.out
              simp only [stWalkQ_snoc, listQ, walkQ_eq, List.length_append, List.length_cons, List.length_nil, Nat.zero_add]
              omega
        · gi_wp2_with fail
          refine bodyPost_ret (results_none rfl _ _ _) rfl ?_
          exact ⟨⟨_, rfl⟩, .inr ⟨pre ++ [(x.1, x.2, st0.length + 1)], B', N', HPRE.out, hJx3⟩⟩
end Go.Proofs.YtingnigiijdllaaDoor
namespace Go.Proofs.YtingnigiijdllaaDoor
open Go Go.RowKit Go.Maps Go.WideMaps

def heldR (v : Value) : Option (DataW Value × List MemPlace) := some (.held v, [])
def MapV (P : Program) (k : TypeId) (w : World) (b n : Nat) (z : Value) (f : ByteArray → Value) : Prop :=
  ∃ D : DataW Value, w.ownsMap P k heldR b n D ∧ ∀ s : ByteArray, s.size ≤ maxLen → D.atKey (.string s.data.toList) (.held z) = .held (f s)
section
variable {P : Program} {k e : TypeId} {w : World} {b n : Nat} {z : Value} {f : ByteArray → Value}
theorem mapV_made (w : World) (P : Program) (k : TypeId) (z : Value) : MapV P k (w.alloc (.map #[] 0)) w.heap.size 0 z (fun _ => z) :=
  ⟨.map [], World.ownsMap_made _ _ _ _, fun _ _ => rfl⟩
theorem MapV.lt (h : MapV P k w b n z f) : b < w.heap.size := by
  obtain ⟨D, h1, _⟩ := h
  exact h1.lt
theorem MapV.of_block {w' : World} (h : MapV P k w b n z f) (hb : w'.heap[b]? = w.heap[b]?) : MapV P k w' b n z f := by
  obtain ⟨D, ⟨es, clock, hb0, F, hs, hD⟩, h2⟩ := h
  exact ⟨D, ⟨es, clock, hb.trans hb0, F, hs, hD⟩, h2⟩
theorem MapV.look {t : TypeId} (h : MapV P k w b n z f) (K : Keyed P k) (hk : P.underlying k = some .string) (ht : P.underlying t = some (.map k e)) (hz : (zeroValue e).run P w = .ok z w)
    {s : ByteArray} (hs : s.size ≤ maxLen) : (Instr.lookup t (.map (some b)) (.string s) false).run P w = .ok (f s) w := by
  obtain ⟨D, h1, h2⟩ := h
  obtain ⟨v, ps, hrun, hv⟩ := h1.lookup K ht hz (zd := .held z) (zp := []) rfl (keyOf_string_mk hk hs)
  rw [h2 s hs] at hv
  simp only [heldR, Option.some.injEq, Prod.mk.injEq, DataW.held.injEq] at hv
  rw [hrun, hv.1]
theorem MapV.store {t : TypeId} (h : MapV P k w b n z f) (K : Keyed P k) (hk : P.underlying k = some .string) (ht : P.underlying t = some (.map k e)) (hn : n < maxLen)
    {s : ByteArray} (hs : s.size ≤ maxLen) (v : Value) : ∃ w', (Instr.mapUpdate t (.map (some b)) (.string s) v).run P w = .ok () w' ∧ MapV P k w' b (n + 1) z (fun x => if x = s then v else f x) ∧ w.grownBy w' (some b) := by
  obtain ⟨D, h1, h2⟩ := h
  obtain ⟨w', hrun, hown, hg⟩ := h1.update K ht hn (keyOf_string_mk hk hs) (d := .held v) (ps := []) (val := v) rfl
  refine ⟨w', hrun, ⟨_, hown, fun x hx => ?_⟩, hg⟩
  have ik : WideAt.IsKeyLit (.string s.data.toList) := by simp [WideAt.IsKeyLit]
  by_cases hxs : x = s
  · subst hxs
    rw [atKey_put_same h1.isMap ik]
    simp
  · have hne : Lit.string x.data.toList ≠ Lit.string s.data.toList := by
      intro hc
      apply hxs
      obtain ⟨⟨x⟩⟩ := x
      obtain ⟨⟨s⟩⟩ := s
      rw [show x = s by simpa using hc]
    rw [atKey_put_other hne, h2 x hx]
    simp [hxs]
end
theorem wpList_look_v {P : Program} (w : World) {ops : Array Oper} {rest : List Oper} {o : Oper} {a : Act} {Q : Exit → Act → World → Prop} {k e : TypeId} {b n : Nat} {z : Value} {f : ByteArray → Value} (hg : o.guard = none) (m x : Operand) (t : TypeId) (hop : o.op = Op.lookup t m x false)
    (K : Keyed P k) (hk : P.underlying k = some .string) (ht : P.underlying t = some (.map k e)) (hz : (zeroValue e).run P w = .ok z w)
    (hm : a.eval m = .map (some b)) (hmap : MapV P k w b n z f) (s : ByteArray) (hx : a.eval x = .string s) (hs : s.size ≤ maxLen) (r : Value) (hr : f s = r) (hK : wpList P ops Q rest (a.put o.dst r) w) :
    wpList P ops Q (o :: rest) a w := by
  refine wpList_plain hg fun K' hK' => ?_
  have hrun := hmap.look K hk ht hz hs
  rw [hr] at hrun
  unfold Oper.wp
  simp [execOp, hop, hm, hx, hrun, Result.andThen]
  exact hK' _ _ hK
end Go.Proofs.YtingnigiijdllaaDoor
