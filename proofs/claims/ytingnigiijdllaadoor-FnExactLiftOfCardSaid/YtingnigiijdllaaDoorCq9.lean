/-
  Several texts of the proof in one (each says below what it holds): LvJ LvK LvG ScopeA ScopeB NodesQ NodesR MapV ScopeC ScopeD ScopeE ScopeF OccA FreeQ OccB OccC FvI RsI GrG CpI.
-/
import Derived.Test.YtingnigiijdllaaDoorCq8
import Derived.Test.YtingnigiijdllaaDoorCq4
import Derived.Test.YtingnigiijdllaaDoorCq7
import Derived.Test.YtingnigiijdllaaDoorCq5
import Derived.Test.YtingnigiijdllaaDoorCq2
import Derived.Test.YtingnigiijdllaaDoorCq3
import Derived.Test.YtingnigiijdllaaDoorCq1
import Derived.Lib.SmallJoins
import Derived.RangeFuncNested
import Derived.RangeFuncBound
import Derived.RangeFuncCalls
import Derived.Shelf.Abstract
import Derived.IntWalk
import Derived.Shelf.RegionOpen
import Derived.WalkKit
import Derived.TacticsInMore
import Derived.LoopNIn
import Derived.LoopIn
import Derived.Sort.LoopGhostIn
import Derived.Maps.OwnOps
import Derived.Maps.OwnSet
import Derived.Maps.Views
import Derived.Below
import Derived.Deep.RegionHeldLaw
set_option linter.unusedVariables false
set_option linter.unusedSimpArgs false
namespace Go.Proofs.YtingnigiijdllaaDoor
open Go Go.RowKit Go.Shelf
attribute [local go_sem] Oper.semAt_some

set_option maxRecDepth 100000 in
set_option maxHeartbeats 4000000 in
theorem levels_it (l Bn Be : Nat) (t : Tm) (tp : Option Addr) (tc : Nat) (rp : Option Addr) (rc : Nat) (p : Option Addr) (c : Nat) (n : Int) (C B0 : Nat → Prop) (W : World) (J Jx : List (Tm × Int) → (Nat → Prop) → (Nat → Prop) → World → Prop)
    (hBn : W.heap[Bn]? = some (.cells #[.int .i64 n] 3 (0, 0))) (hBe : W.heap[Be]? = some (.cells (tmC t tp tc rp rc p c) 35 (0, 0))) (hT : TM' W C t tp tc rp rc p c) (hn : t.nodes ≤ 2097153)
    (hC : ∀ b, C b → b < W.heap.size) (hCB : ∀ b, C b → ¬ B0 b) (hB0 : ∀ b, B0 b → b < W.heap.size)
    (hJ : ∀ pre B N A A', J pre B N A → Keep W.heap.size (fun z => B z ∨ N z) A A' → J pre B N A') (hJx : ∀ pre B N A A', Jx pre B N A → Keep W.heap.size (fun z => B z ∨ N z) A A' → Jx pre B N A')
    (hY : ∀ (pre : List (Tm × Int)) (x : (Tm × Int) × Value) (Y B N : Nat → Prop) (W1 : World), J pre B N W1 → pre ++ [keyL x] <+: walkL t n → GoodL C x Y W1 → (∀ z : Nat, Y z → ¬ B z) → YieldAt Fence.wide 1 Tryd.prog l (encL x) W1 fun e W' =>
      ∃ B' N', Grew B B' W1.heap.size W'.heap.size ∧ (∀ z, N' z → N z ∨ Y z) ∧ ((e = .returned (.bool true) ∧ J (pre ++ [keyL x]) B' N' W' ∧ Holds B W1 W') ∨ (e = .returned (.bool false) ∧ Jx (pre ++ [keyL x]) B' N' W' ∧ Holds B W1 W')))
    (h0 : J [] B0 (fun _ => False) W) :
    CallsIn Fence.wide 2 Tryd.prog 82 #[.func (.yield l) #[] #[], .pointer (some ⟨Bn, 0, none⟩), .pointer (some ⟨Be, 0, none⟩)] W fun e W' =>
      (∃ v, e = .returned v) ∧ ((∃ B' N', J (walkL t n) B' N' W') ∨ ∃ pre B' N', pre <+: walkL t n ∧ Jx pre B' N' W') := by
  have HT := Lib.hid hT
  have HY := Lib.hid hY
  have HJ := Lib.hid hJ
  have HJX := Lib.hid hJx
  have HJ0 := Lib.hid h0
  have HB0 := Lib.hid hB0
  have HC := Lib.hid hC
  have HCB := Lib.hid hCB
  have HN := Lib.hid hn
  have q0 := cell_of_blk hBn 0
  simp only [List.getElem?_toArray, List.getElem?_cons_zero] at q0
  have HBE := Lib.hid hBe
  clear hT hY hJ hJx h0 hB0 hC hCB hn hBn hBe
  refine callsIn_of_wp_marks Tryd.func82 rfl trivial ?_ rfl
  simp only [Tryd.ntmps82, List.size_toArray, List.length_cons, List.length_nil, Nat.reduceAdd, Nat.reduceSub, Array.replicate_succ, Array.replicate_zero, List.push_toArray, List.append_toArray, List.nil_append, List.cons_append]
  refine wpIn_wide.2 ?_
  have hbn := World.block_lt_of_cell? W _ q0
  have hbe := (Array.getElem?_eq_some_iff.1 HBE.out).1
  have hb1 : Below W.heap.size W (W.alloc (.cells #[.func (.yield l) #[] #[]] 48)) := al_below _ _
  have q1 := (hb1.cell hbn).trans q0
  have hb3 : Below W.heap.size W (((W.alloc (.cells #[.func (.yield l) #[] #[]] 48)).alloc (.cells #[.int .i64 n] 3)).alloc (.cells #[.slice (some ⟨W.heap.size + 1, 0, none⟩) 1 1] 88)) := (hb1.alloc (by simp) _).alloc (by simp; omega) _
  obtain ⟨e0, e1, e2, e3, e4, e5, e6, e7, e8⟩ := Bx9.of ((hb3.block _ hbe).trans HBE.out)
  have HB3 := Lib.hid hb3
  clear hb1 hb3 q0
  go_wp2_with fail
  obtain ⟨w0, hw0, hs0, hb0, k0, k1, k2⟩ := box_new3 W #[.func (.yield l) #[] #[]] #[.int .i64 n] #[.slice (some ⟨W.heap.size + 1, 0, none⟩) 1 1] 48 3 88
  rw [hw0]
  refine (tnM_any (HT.out.stays (.of_below hb0))).mono ?_
  rintro e wc ⟨Bt, Bp, rfl, hit, hbc, hBt, hBp⟩
  have sc := hbc.size
  have hbW : Below W.heap.size W wc := hb0.trans (hbc.mono hb0.size)
  have k0c := (hbc.block _ (by omega)).trans k0
  have k1c := (hbc.block _ (by omega)).trans k1
  have k2c := (hbc.block _ (by omega)).trans k2
  have HIT := Lib.hid hit
  have HBW := Lib.hid hbW
  have HK := Lib.hid (And.intro k0c (And.intro k1c k2c))
  clear hw0 hit hbc k0 k1 k2 k0c k1c k2c hb0 hbW q1 e0 e1 e2 e3 e4 e5 e6 e7 e8 hbn hbe HB3 HBE
  go_wp2_with fail
  refine (wpIn_wide (n := 2)).1 ?_
  refine rangeD_law (F := Fence.wide) (n := 2) rfl (by omega) (gf := 97) (lb := #[.pointer (some ⟨Bt, 0, none⟩), .pointer (some ⟨Bp, 0, none⟩)]) rfl trivial (enters_of Tryd.func97 (by kernel_rfl) rfl)
    (B0 := fun z => (z = W.heap.size + 2 ∨ z = W.heap.size + 1) ∨ B0 z)
    (nodesD_seq (C := fun z => C z ∨ z = Bp) (Ct := C) HIT.out (HT.out.stays (.of_below HBW.out)) HN.out (Below.refl _ _) (fun b hb => ?hC) (Or.inr rfl) (fun z hz => Or.inl hz)) (fun _ => rfl) (fun b hb => ?hCB) (fun b hb => ?hC2) (fun b hb => ?hB0)
    (fun pre B N Wx => ∃ (Bo No : Nat → Prop) (g cap : Nat), LvI wc.heap.size (fun z => C z ∨ z = Bp) W l (W.heap.size + 2) n J pre B N Wx Bo No g cap)
    (fun c pre B N Wx => c = .ret ∧ ∃ (Bo No : Nat → Prop) (q : List (Tm × Int)), q <+: walkL t n ∧ (∀ z, Bo z → B z) ∧ (∀ z, ¬ No z) ∧ Jx q Bo No Wx)
    ?hI ?hIx ?hG (fun pre B N A h z hz => by obtain ⟨Bo, No, g, cap, h⟩ := h; exact (h.lt z hz).1) (fun x Y A z hg hz => absurd hz (hg.2 z)) ?h0
    (fun x s a' Wx => ∃ b5 : Nat, s ≤ b5 ∧ Wx.heap[b5]? = some (.cells x.2.1.cells 35 (0, 0)) ∧ a' = { tmps := #[.func (.yield l) #[] #[], .pointer (some ⟨Bn, 0, none⟩), .pointer (some ⟨Be, 0, none⟩), .pointer (some ⟨W.heap.size, 0, none⟩), .pointer (some ⟨W.heap.size + 2, 0, none⟩), .pointer (some ⟨b5, 0, none⟩), .int .i64 (x.2.2 : Nat), undef, .int .i64 n, .slice (some ⟨W.heap.size + 1, 0, none⟩) 1 1, tmV t tp tc rp rc p c, iterM Bt Bp, x.2.1, .int .i64 (x.2.2 : Nat), undef, undef, undef, undef, undef, undef, undef, undef, undef, undef, undef, undef, undef, undef, undef, undef, undef, undef], defers := [] })
    ?hAx ?assign ?body ?done ?stop
  case hC =>
    rcases hb with hb | rfl
    · exact Nat.lt_of_lt_of_le (HC.out b hb) HBW.out.size
    · exact (Array.getElem?_eq_some_iff.1 HIT.out.bp).1
  case hC2 =>
    rcases hb with hb | rfl
    · exact Nat.lt_of_lt_of_le (HC.out b hb) HBW.out.size
    · exact (Array.getElem?_eq_some_iff.1 HIT.out.bp).1
  case hCB =>
    rintro ((rfl | rfl) | h)
    · rcases hb with hb | hb
      · have := HC.out _ hb; omega
      · omega
    · rcases hb with hb | hb
      · have := HC.out _ hb; omega
      · omega
    · rcases hb with hb | hb
      · exact HCB.out b hb h
      · have := HB0.out b h; omega
  case hB0 =>
    rcases hb with (rfl | rfl) | h
    · omega
    · omega
    · have := HB0.out b h; omega
  case hI =>
    rintro pre B N A A' ⟨Bo, No, g, cap, h⟩ hk
    exact ⟨Bo, No, g, cap, h.keep (by omega) HJ.out hk⟩
  case hIx =>
    rintro c pre B N A A' ⟨e, Bo, No, q, h1, h2, h3, h4⟩ hk
    exact ⟨e, Bo, No, q, h1, h2, h3, HJX.out _ _ _ _ _ h4 (hk.mono (by omega) (fun b hb => hb.elim (fun h => Or.inl (h2 b h)) (fun h => absurd h (h3 b))))⟩
  case hG =>
    intro x Y A A' l' r hl hg hr hA
    exact goodND_loop hg hA (fun h => by have := HC.out _ h; omega)
  case h0 =>
    obtain ⟨k0, k1, k2⟩ := HK.out
    refine ⟨B0, fun _ => False, W.heap.size + 1, 1, fun _ => Iff.rfl, ⟨fun h => ?_, fun h => ?_, by omega, by omega, by omega⟩, fun z hz => ?_, fun z hz => hz, fun z hz => hz, k2, ?_, HJ.out _ _ _ _ _ HJ0.out (.of_below (Nat.le_refl _) HBW.out), k0, Nat.le_refl _, fun h => ?_, fun h => ?_⟩
    · have := HB0.out _ h; omega
    · have := HB0.out _ h; omega
    · rcases hz with (rfl | rfl) | h
      · omega
      · omega
      · have := HB0.out z h; omega
    · exact ⟨rfl, Or.inr ⟨W.heap.size + 1, 1, _, rfl, Nat.le_refl _, k1, Nat.le_refl _, by unfold maxLen; omega, rfl, rfl⟩⟩
    · rcases h with h | h
      · have := HC.out _ h; omega
      · omega
    · rcases h with h | h
      · have := HC.out _ h; omega
      · omega
  case hAx =>
    rintro x s a' Wx l' r o ⟨b5, hs, h, e⟩ hl
    exact ⟨b5, hs, (World.putObj_heap_other (by rintro rfl; rw [hl] at h; cases h)).trans h, e⟩
  case assign =>
    rintro l' ⟨xt, v, d⟩ Y Wx K hg hK
    obtain ⟨tp', tc', rp', rc', p', c', rfl, hG'⟩ := (show TM Wx _ xt v from hg.1)
    have HK := Lib.hid hK
    clear hK
    gi_wp2
    exact HK.out _ _ ((Below.refl _ Wx).alloc (Nat.le_refl _) _) ⟨Wx.heap.size, Nat.le_refl _, blk_new _ _, by simp⟩
  case done =>
    rintro D B N Wx hD hne ⟨Bo, No, g, cap, hI⟩ hK
    gi_wp2
    refine ⟨by simp, .inl ⟨_, _, rfl, run_takeDeferred hK, ?_⟩⟩
    refine ⟨_, results_none rfl _ _ _, ⟨_, rfl⟩, .inl ⟨Bo, No, ?_⟩⟩
    rw [← lvs_all]
    exact HJ.out _ _ _ _ _ hI.j ⟨below_putObj _ _ _ _ (by omega), fun z hz _ => World.putObj_heap_other (hz.elim (fun h => hne z (Or.inl ((hI.split z).2 (Or.inr h)))) (fun h => absurd h (hI.no z)))⟩
  case stop =>
    rintro D c pre B N Wx hD hne hpre ⟨rfl, Bo, No, q, h1, h2, h3, h4⟩ hK
    gi_wp2
    refine ⟨by simp, .inl ⟨_, _, rfl, run_takeDeferred hK, ?_⟩⟩
    refine ⟨_, results_none rfl _ _ _, ⟨_, rfl⟩, .inr ⟨q, Bo, No, h1, ?_⟩⟩
    exact HJX.out _ _ _ _ _ h4 ⟨below_putObj _ _ _ _ (by omega), fun z hz _ => World.putObj_heap_other (hz.elim (fun h => hne z (Or.inl (h2 z h))) (fun h => absurd h (h3 z)))⟩
  case body =>
    rintro l' pre ⟨xt, v, d⟩ s a' Y B N Wx ⟨Bo, No, g, cap, hI⟩ hpre hg hYB hs ⟨b5, hbs, hb5, rfl⟩ ⟨r, hl⟩ hBl
    have hpre : pre ++ [(xt, d)] <+: walkM t 1 := hpre
    have hb5 : Wx.heap[b5]? = some (.cells v.cells 35 (0, 0)) := hb5
    obtain ⟨tp', tc', rp', rc', p', c', rfl, hG'⟩ := (show TM Wx _ xt v from hg.1)
    simp only [Value.cells] at hb5
    have hok : 1 ≤ d ∧ d ≤ (stkL [n] pre).length := okL_pre (l := n) hpre
    have hdm : d ≤ 2097153 := depth_pre (t := t) (x := xt) (d := d) (hpre.subset (by simp)) HN.out
    obtain ⟨d0, rfl⟩ : ∃ d0, d = d0 + 1 := ⟨d - 1, by omega⟩
    obtain ⟨st, hst⟩ : ∃ st, st = stkL [n] pre := ⟨_, rfl⟩
    have hcell := hI.cell
    have hown := hI.own
    have hlvp := lvs_pre (l := n) hpre
    rw [lvs_snoc] at hlvp
    rw [← hst] at hcell hown hok hlvp
    rw [Nat.add_sub_cancel] at hlvp
    obtain ⟨lv, hlv⟩ : ∃ lv, lv = st.getD d0 0 := ⟨_, rfl⟩
    rw [← hlv] at hlvp
    obtain ⟨hcap1, hcap2, hg1, hg2⟩ := row_cap hown
    have f0 := cell_of_blk hcell 0
    simp only [List.getElem?_toArray, List.getElem?_cons_zero] at f0
    have f1 : Wx.cell? ⟨g, d0, none⟩ = some (.int .i64 lv) := by
      rw [hown.cellAt d0 (by omega), hlv]
      have hlt : d0 < st.length := by omega
      simp [lvV, List.getD_eq_getElem?_getD, List.getElem?_eq_getElem hlt]
    have yb0 := cell_of_blk hI.yb 0
    simp only [List.getElem?_toArray, List.getElem?_cons_zero] at yb0
    obtain ⟨x0, x1, x2, x3, x4, x5, x6, x7, x8⟩ := Bx9.of hb5
    obtain ⟨fn, tmps, assign, body, hy, hR⟩ := YieldAt.any' (b := 0) (HY.out (lvs pre [n]) ((xt, lv), tmV xt tp' tc' rp' rc' p' c') (fun _ => False) Bo No Wx hI.j hlvp ⟨ntM_mk hG', fun z hz => hz⟩ (fun _ h => h.elim)) l'
    have hnb5 : ¬ B b5 := fun h => by have := hs b5 h; omega
    have HI := Lib.hid hI
    have HPRE := Lib.hid hpre
    have HLVP := Lib.hid hlvp
    have HOWN := Lib.hid hown
    have HST := Lib.hid hst
    have HLV := Lib.hid hlv
    have HR := Lib.hid hR
    have HB5 := Lib.hid hb5
    have HNB5 := Lib.hid hnb5
    have HCELL := Lib.hid hcell
    have HD := Lib.hid hok
    have i0' : (0 : Int) ≤ (d0 : Int) := Int.natCast_nonneg _
    have i1' : (d0 : Int) < (st.length : Int) := by omega
    have hdm' : d0 + 1 ≤ 2097153 := hdm
    unfold maxLen at hcap2
    clear hI hpre hlvp hown hst hlv hR hb5 hnb5 hcell hok hdm hg hYB hs hbs hl hBl hG'
    simp only [encL] at hy
    rw [show ((d0 + 1 : Nat) : Int) = (d0 : Int) + 1 from rfl]
    gi_wp2_with fail
    refine ⟨rfl, ?_⟩
    refine HR.out.mono ?_
    rintro e W3 ⟨Bo', No', hgr, hno, ⟨rfl, hJ3, hH3⟩ | ⟨rfl, hJx3, hH3⟩⟩
    · have hI := HI.out
      have hk3 : ∀ z, ¬ Bo z → z < Wx.heap.size → W3.heap[z]? = Wx.heap[z]? := fun z h1 h2 => hH3.2 z h2 h1
      have hlbc := (hI.lt _ ((hI.split _).2 (Or.inl (Or.inl rfl)))).1
      have hcell3 := (hk3 _ hI.apart.1 hlbc).trans HCELL.out
      have hown3 := row_of_block HOWN.out (hk3 g hI.apart.2.1 hg2)
      have hb53 := (hk3 b5 (fun h => HNB5.out ((hI.split b5).2 (Or.inr h))) (Array.getElem?_eq_some_iff.1 HB5.out).1).trans HB5.out
      have f0' := cell_of_blk hcell3 0
      have fz := unfrozen_of_blk hcell3 0
      simp only [List.getElem?_toArray, List.getElem?_cons_zero] at f0'
      obtain ⟨y0, y1, y2, y3, y4, y5, y6, y7, y8⟩ := Bx9.of hb53
      have HG := Lib.hid (And.intro hgr (And.intro hno (And.intro hJ3 hH3)))
      have HOWN3 := Lib.hid hown3
      obtain ⟨i0, hi, hz0, hz1, hz2⟩ := info_parts infoI64
      have HLB := Lib.hid (show W.heap.size + 2 < W3.drew.heap.size from Nat.lt_of_lt_of_le hlbc hH3.1)
      have HGB := Lib.hid (show ¬ g = W.heap.size + 2 from hI.apart.2.2.1)
      have HCX := Lib.hid (show ∀ z, (C z ∨ z = Bp) → z < wc.heap.size from fun z hz => hz.elim (fun h => Nat.lt_of_lt_of_le (HC.out z h) HBW.out.size) (fun h => h ▸ (Array.getElem?_eq_some_iff.1 HIT.out.bp).1))
      have HCELL3 := Lib.hid hcell3
      have HTAKE := Lib.hid (row_take hown3 (m := d0 + 1) (by omega))
      have hfn : ∀ k, Fence.wide.fn k := fun _ => trivial
      have hfo : Tryd.prog.follows .mixedOrders = true := by kernel_rfl
      clear hI hk3 hcell3 hown3 hb53 hgr hno hJ3 hH3 hy x0 x1 x2 x3 x4 x5 x6 x7 x8 f0 f1 yb0
      gi_wp2_with fail
      refine wpIn_region_round hfo (by kernel_rfl) ?_
      refine wpAnyIn_take (i := 1) (v := ?_) rfl rfl (by kernel_rfl) (by kernel_rfl) (by kernel_rfl) (fun _ _ _ h => h) ⟨Or.inl ⟨by rfl, ?_⟩, fun _ => rfl⟩ ?_
      rotate_left
      · intro w
        go_simp
        first
          | with_reducible rfl
          | (rw [if_pos ⟨by omega, by omega⟩]; done)
      refine wpAnyIn_take (i := 4) (v := ?_) rfl rfl (by kernel_rfl) (by kernel_rfl) (by kernel_rfl) (fun _ _ _ h => h) ⟨Or.inl ⟨by rfl, ?_⟩, fun _ => rfl⟩ ?_
      rotate_left
      · intro w
        go_simp
        first
          | with_reducible rfl
          | (rw [if_pos ⟨by omega, by omega⟩]; done)
      refine wpAnyIn_ready (rs := [0, 3]) (by kernel_rfl) (by simp) ?_
      refine AllReadyIn.cons rfl (fun K hK => ?_) ?_
      · go_simp
        refine hK _ _ ?_
        clear hK K
        refine wpAnyIn_take (i := 2) (v := ?_) rfl rfl (by kernel_rfl) (by kernel_rfl) (by kernel_rfl) (fun _ _ _ h => h) ⟨Or.inl ⟨by rfl, ?_⟩, fun _ => rfl⟩ ?_
        rotate_left
        · intro w
          go_simp
          first
            | with_reducible rfl
            | (rw [if_pos ⟨by omega, by omega⟩]; done)
        refine wpAnyIn_ready (rs := [3]) (by kernel_rfl) (by simp) ?_
        refine AllReadyIn.cons rfl (fun K hK => ?_) AllReadyIn.nil
        go_simp
        refine hK _ _ ?_
        clear hK K
        refine wpAnyIn_ready (rs := [5]) (by kernel_rfl) (by simp) ?_
        refine AllReadyIn.cons rfl (fun K hK => ?_) AllReadyIn.nil
        go_simp
        refine ⟨rfl, ?_⟩
        refine (callsIn_wide.2 (nextI_any xt tp' tc' rp' rc' p' c' lv _)).mono ?_
        rintro e w1 ⟨rfl, hb1⟩
        refine hK _ _ ?_
        clear hK K
        have hcw := (hb1.block _ HLB.out).trans HCELL3.out
        have f2 := cell_of_blk hcw 0
        have f3 := cell_of_blk (((al_below w1 (.cells #[.int .i64 (nextL xt.kind lv)] 3)).block _ (Nat.lt_of_lt_of_le HLB.out hb1.size)).trans hcw) 0
        simp only [List.getElem?_toArray, List.getElem?_cons_zero] at f2 f3
        clear hcw
        refine wpAnyIn_ready (rs := [6]) (by kernel_rfl) (by simp) ?_
        refine AllReadyIn.cons rfl (fun K hK => ?_) AllReadyIn.nil
        go_simp
        refine hK _ _ ?_
        clear hK K
        refine wpAnyIn_ready (rs := [7]) (by kernel_rfl) (by simp) ?_
        refine AllReadyIn.cons rfl (fun K hK => ?_) AllReadyIn.nil
        refine stepIn_app1 (w0 := w1) (base := W.heap.size + 1) (v := .slice (some ⟨g, 0, none⟩) (d0 + 1) cap) (n := d0 + 1) (xs := (lvV st).take ((d0 + 1) * 1)) (cs := [.int .i64 (nextL xt.kind lv)]) rfl (.tmp 26) (.tmp 30) rfl Tryd.underlying88 hi hz0 hz1 hz2 rfl (by decide) rfl (row_below HTAKE.out ((Below.refl W3.heap.size W3).drew.trans hb1)) _ rfl (by simp) rfl (fun u hu => by simp at hu; subst hu; rfl) (by unfold maxLen; omega) (by omega) (by have h1 := hb1.size; have h2 := HLB.out; omega) ?_
        intro w' g2 cap2 hA
        have hcw := ((hA.kept (W.heap.size + 2) (Nat.lt_of_lt_of_le HLB.out hb1.size) (by simp only [Value.ownBlock, ne_eq, Option.some.injEq]; exact HGB.out)).1.trans (hb1.block _ HLB.out)).trans HCELL3.out
        have f4 := cell_of_blk hcw 0
        have z4 := unfrozen_of_blk hcw 0
        simp only [List.getElem?_toArray, List.getElem?_cons_zero] at f4
        clear hcw
        refine hK _ _ ?_
        clear hK K
        refine wpAnyIn_ready (rs := [8]) (by kernel_rfl) (by simp) ?_
        refine AllReadyIn.cons rfl (fun K hK => ?_) AllReadyIn.nil
        go_simp
        refine hK _ _ ?_
        clear hK K
        refine wpAnyIn_done (by kernel_rfl) ?_ _
        gi_wp2_with fail
        exact LvI.step HI.out (by omega) HCX.out HST.out HD.out.2 HLV.out HJ.out HG.out.1 HG.out.2.2.2 HG.out.2.1 HG.out.2.2.1 ((Below.refl W3.heap.size W3).drew.trans hb1) hA
      refine AllReadyIn.cons rfl (fun K hK => ?_) AllReadyIn.nil
      go_simp
      refine hK _ _ ?_
      clear hK K
      refine wpAnyIn_ready (rs := [0, 5]) (by kernel_rfl) (by simp) ?_
      refine AllReadyIn.cons rfl (fun K hK => ?_) ?_
      · go_simp
        refine hK _ _ ?_
        clear hK K
        refine wpAnyIn_take (i := 2) (v := ?_) rfl rfl (by kernel_rfl) (by kernel_rfl) (by kernel_rfl) (fun _ _ _ h => h) ⟨Or.inl ⟨by rfl, ?_⟩, fun _ => rfl⟩ ?_
        rotate_left
        · intro w
          go_simp
          first
            | with_reducible rfl
            | (rw [if_pos ⟨by omega, by omega⟩]; done)
        refine wpAnyIn_ready (rs := [5]) (by kernel_rfl) (by simp) ?_
        refine AllReadyIn.cons rfl (fun K hK => ?_) AllReadyIn.nil
        go_simp
        refine ⟨rfl, ?_⟩
        refine (callsIn_wide.2 (nextI_any xt tp' tc' rp' rc' p' c' lv _)).mono ?_
        rintro e w1 ⟨rfl, hb1⟩
        refine hK _ _ ?_
        clear hK K
        have hcw := (hb1.block _ HLB.out).trans HCELL3.out
        have f2 := cell_of_blk hcw 0
        have f3 := cell_of_blk (((al_below w1 (.cells #[.int .i64 (nextL xt.kind lv)] 3)).block _ (Nat.lt_of_lt_of_le HLB.out hb1.size)).trans hcw) 0
        simp only [List.getElem?_toArray, List.getElem?_cons_zero] at f2 f3
        clear hcw
        refine wpAnyIn_ready (rs := [6]) (by kernel_rfl) (by simp) ?_
        refine AllReadyIn.cons rfl (fun K hK => ?_) AllReadyIn.nil
        go_simp
        refine hK _ _ ?_
        clear hK K
        refine wpAnyIn_ready (rs := [7]) (by kernel_rfl) (by simp) ?_
        refine AllReadyIn.cons rfl (fun K hK => ?_) AllReadyIn.nil
        refine stepIn_app1 (w0 := w1) (base := W.heap.size + 1) (v := .slice (some ⟨g, 0, none⟩) (d0 + 1) cap) (n := d0 + 1) (xs := (lvV st).take ((d0 + 1) * 1)) (cs := [.int .i64 (nextL xt.kind lv)]) rfl (.tmp 26) (.tmp 30) rfl Tryd.underlying88 hi hz0 hz1 hz2 rfl (by decide) rfl (row_below HTAKE.out ((Below.refl W3.heap.size W3).drew.trans hb1)) _ rfl (by simp) rfl (fun u hu => by simp at hu; subst hu; rfl) (by unfold maxLen; omega) (by omega) (by have h1 := hb1.size; have h2 := HLB.out; omega) ?_
        intro w' g2 cap2 hA
        have hcw := ((hA.kept (W.heap.size + 2) (Nat.lt_of_lt_of_le HLB.out hb1.size) (by simp only [Value.ownBlock, ne_eq, Option.some.injEq]; exact HGB.out)).1.trans (hb1.block _ HLB.out)).trans HCELL3.out
        have f4 := cell_of_blk hcw 0
        have z4 := unfrozen_of_blk hcw 0
        simp only [List.getElem?_toArray, List.getElem?_cons_zero] at f4
        clear hcw
        refine hK _ _ ?_
        clear hK K
        refine wpAnyIn_ready (rs := [8]) (by kernel_rfl) (by simp) ?_
        refine AllReadyIn.cons rfl (fun K hK => ?_) AllReadyIn.nil
        go_simp
        refine hK _ _ ?_
        clear hK K
        refine wpAnyIn_done (by kernel_rfl) ?_ _
        gi_wp2_with fail
        exact LvI.step HI.out (by omega) HCX.out HST.out HD.out.2 HLV.out HJ.out HG.out.1 HG.out.2.2.2 HG.out.2.1 HG.out.2.2.1 ((Below.refl W3.heap.size W3).drew.trans hb1) hA
      refine AllReadyIn.cons rfl (fun K hK => ?_) AllReadyIn.nil
      go_simp
      refine ⟨rfl, ?_⟩
      refine (callsIn_wide.2 (nextI_any xt tp' tc' rp' rc' p' c' lv _)).mono ?_
      rintro e w1 ⟨rfl, hb1⟩
      refine hK _ _ ?_
      clear hK K
      have hcw := (hb1.block _ HLB.out).trans HCELL3.out
      have f2 := cell_of_blk hcw 0
      have f3 := cell_of_blk (((al_below w1 (.cells #[.int .i64 (nextL xt.kind lv)] 3)).block _ (Nat.lt_of_lt_of_le HLB.out hb1.size)).trans hcw) 0
      simp only [List.getElem?_toArray, List.getElem?_cons_zero] at f2 f3
      clear hcw
      refine wpAnyIn_ready (rs := [0, 6]) (by kernel_rfl) (by simp) ?_
      refine AllReadyIn.cons rfl (fun K hK => ?_) ?_
      · go_simp
        refine hK _ _ ?_
        clear hK K
        refine wpAnyIn_take (i := 2) (v := ?_) rfl rfl (by kernel_rfl) (by kernel_rfl) (by kernel_rfl) (fun _ _ _ h => h) ⟨Or.inl ⟨by rfl, ?_⟩, fun _ => rfl⟩ ?_
        rotate_left
        · intro w
          go_simp
          first
            | with_reducible rfl
            | (rw [if_pos ⟨by omega, by omega⟩]; done)
        refine wpAnyIn_ready (rs := [6]) (by kernel_rfl) (by simp) ?_
        refine AllReadyIn.cons rfl (fun K hK => ?_) AllReadyIn.nil
        go_simp
        refine hK _ _ ?_
        clear hK K
        refine wpAnyIn_ready (rs := [7]) (by kernel_rfl) (by simp) ?_
        refine AllReadyIn.cons rfl (fun K hK => ?_) AllReadyIn.nil
        refine stepIn_app1 (w0 := w1) (base := W.heap.size + 1) (v := .slice (some ⟨g, 0, none⟩) (d0 + 1) cap) (n := d0 + 1) (xs := (lvV st).take ((d0 + 1) * 1)) (cs := [.int .i64 (nextL xt.kind lv)]) rfl (.tmp 26) (.tmp 30) rfl Tryd.underlying88 hi hz0 hz1 hz2 rfl (by decide) rfl (row_below HTAKE.out ((Below.refl W3.heap.size W3).drew.trans hb1)) _ rfl (by simp) rfl (fun u hu => by simp at hu; subst hu; rfl) (by unfold maxLen; omega) (by omega) (by have h1 := hb1.size; have h2 := HLB.out; omega) ?_
        intro w' g2 cap2 hA
        have hcw := ((hA.kept (W.heap.size + 2) (Nat.lt_of_lt_of_le HLB.out hb1.size) (by simp only [Value.ownBlock, ne_eq, Option.some.injEq]; exact HGB.out)).1.trans (hb1.block _ HLB.out)).trans HCELL3.out
        have f4 := cell_of_blk hcw 0
        have z4 := unfrozen_of_blk hcw 0
        simp only [List.getElem?_toArray, List.getElem?_cons_zero] at f4
        clear hcw
        refine hK _ _ ?_
        clear hK K
        refine wpAnyIn_ready (rs := [8]) (by kernel_rfl) (by simp) ?_
        refine AllReadyIn.cons rfl (fun K hK => ?_) AllReadyIn.nil
        go_simp
        refine hK _ _ ?_
        clear hK K
        refine wpAnyIn_done (by kernel_rfl) ?_ _
        gi_wp2_with fail
        exact LvI.step HI.out (by omega) HCX.out HST.out HD.out.2 HLV.out HJ.out HG.out.1 HG.out.2.2.2 HG.out.2.1 HG.out.2.2.1 ((Below.refl W3.heap.size W3).drew.trans hb1) hA
      refine AllReadyIn.cons rfl (fun K hK => ?_) AllReadyIn.nil
      go_simp
      refine hK _ _ ?_
      clear hK K
      refine wpAnyIn_ready (rs := [0]) (by kernel_rfl) (by simp) ?_
      refine AllReadyIn.cons rfl (fun K hK => ?_) AllReadyIn.nil
      go_simp
      refine hK _ _ ?_
      clear hK K
      refine wpAnyIn_take (i := 2) (v := ?_) rfl rfl (by kernel_rfl) (by kernel_rfl) (by kernel_rfl) (fun _ _ _ h => h) ⟨Or.inl ⟨by rfl, ?_⟩, fun _ => rfl⟩ ?_
      rotate_left
      · intro w
        go_simp
        first
          | with_reducible rfl
          | (rw [if_pos ⟨by omega, by omega⟩]; done)
      refine wpAnyIn_ready (rs := [7]) (by kernel_rfl) (by simp) ?_
      refine AllReadyIn.cons rfl (fun K hK => ?_) AllReadyIn.nil
      refine stepIn_app1 (w0 := w1) (base := W.heap.size + 1) (v := .slice (some ⟨g, 0, none⟩) (d0 + 1) cap) (n := d0 + 1) (xs := (lvV st).take ((d0 + 1) * 1)) (cs := [.int .i64 (nextL xt.kind lv)]) rfl (.tmp 26) (.tmp 30) rfl Tryd.underlying88 hi hz0 hz1 hz2 rfl (by decide) rfl (row_below HTAKE.out ((Below.refl W3.heap.size W3).drew.trans hb1)) _ rfl (by simp) rfl (fun u hu => by simp at hu; subst hu; rfl) (by unfold maxLen; omega) (by omega) (by have h1 := hb1.size; have h2 := HLB.out; omega) ?_
      intro w' g2 cap2 hA
      have hcw := ((hA.kept (W.heap.size + 2) (Nat.lt_of_lt_of_le HLB.out hb1.size) (by simp only [Value.ownBlock, ne_eq, Option.some.injEq]; exact HGB.out)).1.trans (hb1.block _ HLB.out)).trans HCELL3.out
      have f4 := cell_of_blk hcw 0
      have z4 := unfrozen_of_blk hcw 0
      simp only [List.getElem?_toArray, List.getElem?_cons_zero] at f4
      clear hcw
      refine hK _ _ ?_
      clear hK K
      refine wpAnyIn_ready (rs := [8]) (by kernel_rfl) (by simp) ?_
      refine AllReadyIn.cons rfl (fun K hK => ?_) AllReadyIn.nil
      go_simp
      refine hK _ _ ?_
      clear hK K
      refine wpAnyIn_done (by kernel_rfl) ?_ _
      gi_wp2_with fail
      exact LvI.step HI.out (by omega) HCX.out HST.out HD.out.2 HLV.out HJ.out HG.out.1 HG.out.2.2.2 HG.out.2.1 HG.out.2.2.1 ((Below.refl W3.heap.size W3).drew.trans hb1) hA
    · gi_wp2_with fail
      exact LvI.stop HI.out hgr hH3 hno HLVP.out hJx3
end Go.Proofs.YtingnigiijdllaaDoor
namespace Go.Proofs.YtingnigiijdllaaDoor
open Go Go.RowKit Go.Shelf
attribute [local go_sem] Oper.semAt_some

abbrev iterL (Bn Be : Nat) : Value := .func (.func 82) #[] #[.pointer (some ⟨Bn, 0, none⟩), .pointer (some ⟨Be, 0, none⟩)]
def IterL (w : World) (t : Tm) (tp : Option Addr) (tc : Nat) (rp : Option Addr) (rc : Nat) (p : Option Addr) (c : Nat) (n : Int) (Bn Be : Nat) : Prop := w.heap[Bn]? = some (.cells #[.int .i64 n] 3 (0, 0)) ∧ w.heap[Be]? = some (.cells (tmC t tp tc rp rc p c) 35 (0, 0))
set_option maxRecDepth 100000 in
theorem nwl_any (t : Tm) (tp : Option Addr) (tc : Nat) (rp : Option Addr) (rc : Nat) (p : Option Addr) (c : Nat) (n : Int) (w : World) : Calls Tryd.prog 58 #[tmV t tp tc rp rc p c, .int .i64 n] w fun e w' =>
    ∃ Bn Be, e = .returned (iterL Bn Be) ∧ IterL w' t tp tc rp rc p c n Bn Be ∧ Below w.heap.size w w' := by
  go_enter Tryd.func58, Tryd.ntmps58
  go_wp2
  obtain ⟨wl, hwl, hsz, hbl, k1, k2⟩ := box_new2 w (tmC t tp tc rp rc p c) #[.int .i64 n] 35 3
  rw [hwl]
  go_ret
  exact ⟨_, _, rfl, ⟨k2, k1⟩, hbl⟩
theorem levels_seq {w wl : World} {C : Nat → Prop} {t : Tm} {tp : Option Addr} {tc : Nat} {rp : Option Addr} {rc : Nat} {p : Option Addr} {c : Nat} {n : Int} {Bn Be : Nat} (h : IterL w t tp tc rp rc p c n Bn Be) (hT : TM' w C t tp tc rp rc p c) (hn : t.nodes ≤ 2097153) (hb : Below w.heap.size w wl) (hC : ∀ b, C b → b < w.heap.size) :
    SeqD Fence.wide 2 Tryd.prog 82 #[.pointer (some ⟨Bn, 0, none⟩), .pointer (some ⟨Be, 0, none⟩)] encL keyL (GoodL C) C (walkL t n) wl := by
  intro l J Jx B0 W hbW hCB hB0 hJ hJx hY h0
  have hbb : Below w.heap.size w W := hb.trans (hbW.mono hb.size)
  exact levels_it l Bn Be t tp tc rp rc p c n C B0 W J Jx ((hbb.block _ (Array.getElem?_eq_some_iff.1 h.1).1).trans h.1) ((hbb.block _ (Array.getElem?_eq_some_iff.1 h.2).1).trans h.2) (hT.stays (.of_below hbb)) hn (fun b hc => Nat.lt_of_lt_of_le (hC b hc) hbb.size) hCB hB0 hJ hJx hY h0
theorem goodL_loop {C : Nat → Prop} {x : (Tm × Int) × Value} {Y : Nat → Prop} {A A' : World} {l : Nat} (h : GoodL C x Y A) (hA : Holds (fun b => b = l) A A') (hC : ¬ C l) : GoodL C x Y A' :=
  ⟨nstaysM h.1 ⟨hA.1, fun b hb hlt => hA.2 b hlt (fun e => hC (e ▸ hb))⟩, h.2⟩
theorem not_lv_at {t x : Tm} {n lv : Int} {pre : List (Tm × Int)} (h : pre ++ [(x, lv)] <+: walkL t n) (hx : ¬ LvNode (x, lv)) : ¬ (t.IsT ∧ t.lvOk n) := fun hh =>
  hx ((levels_walk t n).1 hh (x, lv) (h.subset (by simp)))
mutual
theorem wt_walkL : ∀ (t : Tm) (l : Int) (e : Tm × Int), e ∈ walkL t l → e.1.wt ≤ t.wt
  | .mk k a b n t r ts, l, e, h => by
    rw [walkL] at h
    rcases List.mem_cons.1 h with rfl | h
    · exact Nat.le_refl _
    · have h1 := wt_walkLS ts _ e h
      simp only [Tm.wt]
      omega
theorem wt_walkLS : ∀ (ts : List Tm) (l : Int) (e : Tm × Int), e ∈ walkLS ts l → e.1.wt ≤ wtS ts
  | [], l, e, h => by simp [walkLS] at h
  | t :: ts, l, e, h => by
    rw [walkLS] at h
    rcases List.mem_append.1 h with h | h
    · have h1 := wt_walkL t l e h
      simp only [wtS]
      omega
    · have h1 := wt_walkLS ts l e h
      simp only [wtS]
      omega
end

set_option maxRecDepth 100000 in
set_option maxHeartbeats 2000000 in
theorem levI_any {C : Nat → Prop} {t : Tm} {v : Value} {w : World} (n : Int) (hka : KA w) (h : TM w C t v) (hn : t.wt ≤ 2097152) :
    Calls Tryd.prog 36 #[v, .int .i64 n] w (Tells (t.IsT ∧ t.lvOk n) w) := by
  have hnt : t.nodes ≤ 2097153 := by have := t.nodes_wt; omega
  have HKA := Lib.hid (fun (w' : World) (hb : Below w.heap.size w w') => hka.below hb)
  have HWT := Lib.hid hn
  clear hka hn
  obtain ⟨tp, tc, rp, rc, p, c, rfl, hT⟩ := h
  have HT := Lib.hid (hT.mono (C' := (· < w.heap.size)) (fun _ _ h => h))
  clear hT
  refine (callsIn_wide (n := 3)).1 ?_
  refine callsIn_of_wp_marks Tryd.func36 rfl trivial ?_ rfl
  simp only [Tryd.ntmps36, List.size_toArray, List.length_cons, List.length_nil, Nat.reduceAdd, Nat.reduceSub, Array.replicate_succ, Array.replicate_zero, List.push_toArray, List.append_toArray, List.nil_append, List.cons_append]
  gi_wp2_with fail
  obtain ⟨w0, hw0, hs0, hb0, hk0, hk1⟩ := box_new2 w (tmC t tp tc rp rc p c) #[.bool false] 35 4
  rw [hw0]
  refine ⟨trivial, ?_⟩
  refine (callsIn_wide.2 (nwl_any t tp tc rp rc p c n w0)).mono ?_
  rintro e wl ⟨Bn, Be, rfl, hI, hbw⟩
  have hsz := hbw.size
  have hbl : Below w.heap.size w wl := hb0.trans (hbw.mono hb0.size)
  have k1 : wl.heap[w.heap.size + 1]? = some (.cells #[.bool false] 4 (0, 0)) := (hbw.block _ (by omega)).trans hk1
  have HSL : TM' wl (· < w.heap.size) t tp tc rp rc p c := HT.out.stays (.of_below hbl)
  clear hk0 hk1 hb0 hw0
  gi_wp2_with fail
  refine rangeD_law (F := Fence.wide) (n := 3) rfl (by omega) (gf := 82) (lb := #[.pointer (some ⟨Bn, 0, none⟩), .pointer (some ⟨Be, 0, none⟩)]) rfl trivial (enters_of Tryd.func82 (by kernel_rfl) rfl)
    (B0 := fun b => b = w.heap.size + 1) (levels_seq hI HSL hnt (Below.refl _ _) (fun b h => by omega)) (fun _ => rfl) (fun b h h2 => by omega) (fun b h => by omega) (fun b h => by omega)
    (fun pre B N W => (∀ z, B z ↔ z = w.heap.size + 1) ∧ (∀ z, ¬ N z) ∧ W.heap[w.heap.size + 1]? = some (.cells #[.bool false] 4 (0, 0)) ∧ (∀ e ∈ pre, LvNode e) ∧ Below w.heap.size w W)
    (fun j pre B N W => (∀ z, B z ↔ z = w.heap.size + 1) ∧ j = .ret ∧ W.cell? ⟨w.heap.size + 1, 0, none⟩ = some (.bool false) ∧ ¬ (t.IsT ∧ t.lvOk n) ∧ Below w.heap.size w W)
    (fun pre B N A A' h hk => ⟨h.1, h.2.1, (hk.1.block _ (by omega)).trans h.2.2.1, h.2.2.2.1, h.2.2.2.2.trans (hk.1.mono (by omega))⟩)
    (fun j pre B N A A' h hk => ⟨h.1, h.2.1, (hk.1.cell (by show w.heap.size + 1 < _; omega)).trans h.2.2.1, h.2.2.2.1, h.2.2.2.2.trans (hk.1.mono (by omega))⟩)
    (fun x Y A A' l r hl hg hr hA => goodL_loop hg hA (by omega)) (fun pre B N A h z hz => by rw [(h.1 z).1 hz]; exact (Array.getElem?_eq_some_iff.1 h.2.2.1).1) (fun x Y A z hg hz => absurd hz (hg.2 z)) ⟨fun _ => Iff.rfl, fun _ h => h, k1, (fun e he => absurd he (List.not_mem_nil)), hbl⟩
    (fun x s a' W => ∃ bx, W.heap[bx]? = some (.cells x.2.cells 35 (0, 0)) ∧ a' = { tmps := #[tmV t tp tc rp rc p c, .int .i64 n, .pointer (some ⟨w.heap.size, 0, none⟩), undef, .pointer (some ⟨w.heap.size + 1, 0, none⟩), .pointer (some ⟨bx, 0, none⟩), .int .i64 x.1.2,
      tmV t tp tc rp rc p c, .int .i64 n, iterL Bn Be, x.2, .int .i64 x.1.2, undef, undef, undef, undef, undef, undef, undef, undef, undef, undef, undef], defers := [] })
    (fun x s a' W l r o h hl => by
      obtain ⟨bx, h2, h3⟩ := h
      exact ⟨bx, (World.putObj_heap_other (fun e => by rw [e, hl] at h2; cases h2)).trans h2, h3⟩) ?assign ?body ?done ?stop
  case assign =>
    rintro l ⟨⟨x, lv⟩, v⟩ Y W K hG hK
    obtain ⟨tp', tc', rp', rc', p', c', rfl, hG'⟩ := (show TM W _ x v from hG.1)
    have HK := Lib.hid hK
    clear hK
    gi_wp2
    exact HK.out _ _ ((Below.refl _ _).alloc (Nat.le_refl _) _) ⟨W.heap.size, blk_new _ _, by simp⟩
  case body =>
    rintro l pre ⟨⟨x, lv⟩, v⟩ s a' Y B N W ⟨hBo, hNo, hr, hso, hB⟩ hpre hG hYB hs ⟨bx, hbx, rfl⟩ hlp hBl
    have hpre : pre ++ [(x, lv)] <+: walkL t n := hpre
    have hbx : W.heap[bx]? = some (.cells v.cells 35 (0, 0)) := hbx
    obtain ⟨tp', tc', rp', rc', p', c', rfl, hG'⟩ := (show TM W _ x v from hG.1)
    simp only [Value.cells] at hbx
    obtain ⟨x0, x1, x2, x3, x4, x5, x6, x7, x8⟩ := Bx9.of hbx
    have hxw : x.wt ≤ 2097152 := by
      have h1 := wt_walkL t n (x, lv) (hpre.subset (by simp))
      have h2 := HWT.out
      simp only at h1
      omega
    have HC := Lib.hid (formI_any W (HKA.out W hB) hG' hxw)
    have HR1 := Lib.hid hr
    have HB1 := Lib.hid hB
    have HSO := Lib.hid hso
    have HP := Lib.hid hpre
    have HBO := Lib.hid hBo
    have HFIN := Lib.hid (fun (W' : World) (hb : Below W.heap.size W W') => show W'.heap[w.heap.size + 1]? = some (.cells #[.bool false] 4 (0, 0)) from (hb.block _ (Array.getElem?_eq_some_iff.1 hr).1).trans hr)
    have hstop : ¬ LvNode (x, lv) → ∀ (W' : World) (q : World), Below W.heap.size W W' → q = W'.setCell ⟨w.heap.size + 1, 0, none⟩ (.bool false) → ∃ B' N' : Nat → Prop, Grew B B' W.heap.size q.heap.size ∧ (∀ z, N' z → N z ∨ Y z) ∧ Holds B W q ∧ (∀ z, B' z ↔ z = w.heap.size + 1) ∧ q.cell? ⟨w.heap.size + 1, 0, none⟩ = some (.bool false) ∧ ¬ (t.IsT ∧ t.lvOk n) ∧ Below w.heap.size w q := by
      rintro hno W' q hb rfl
      have hr2 := HFIN.out W' hb
      have r2 := cell_of_blk hr2 0
      simp only [List.getElem?_toArray, List.getElem?_cons_zero] at r2
      have hlt := (Array.getElem?_eq_some_iff.1 hr2).1
      refine ⟨B, fun _ => False, Grew.refl (fun b hb' => ?_), fun z hz => hz.elim, Holds.setCell (.of_below hb) ⟨w.heap.size + 1, 0, none⟩ ((hBo _).2 rfl) _, hBo, World.cell?_setCell_same' W' ⟨w.heap.size + 1, 0, none⟩ (.bool false) (by rw [r2]; rfl), not_lv_at hpre hno, (hB.trans (hb.mono hB.size)).setCell (p := ⟨w.heap.size + 1, 0, none⟩) (by show w.heap.size ≤ w.heap.size + 1; omega) _⟩
      rw [(hBo b).1 hb']
      simpa [World.setCell] using hlt
    have hgo : LvNode (x, lv) → ∀ (W' : World), Below W.heap.size W W' → ∃ B' N' : Nat → Prop, Grew B B' W.heap.size W'.heap.size ∧ (∀ z, N' z → N z ∨ Y z) ∧ Holds B W W' ∧ (∀ z, B' z ↔ z = w.heap.size + 1) ∧ (∀ z, ¬ N' z) ∧ W'.heap[w.heap.size + 1]? = some (.cells #[.bool false] 4 (0, 0)) ∧ (∀ e ∈ pre ++ [(x, lv)], LvNode e) ∧ Below w.heap.size w W' := by
      intro hx W' hb
      have hr2 := HFIN.out W' hb
      refine ⟨B, fun _ => False, Grew.refl (fun b hb' => ?_), fun z hz => hz.elim, .of_below hb, hBo, fun _ h => h, hr2, fun e he => ?_, hB.trans (hb.mono hB.size)⟩
      · rw [(hBo b).1 hb']
        exact (Array.getElem?_eq_some_iff.1 hr2).1
      · rcases List.mem_append.1 he with he | he
        · exact hso e he
        · simp only [List.mem_singleton] at he
          subst he
          exact hx
    have HSTOP := Lib.hid hstop
    have HGO := Lib.hid hgo
    have r2 := cell_of_blk hr 0
    have rz := unfrozen_of_blk hr 0
    simp only [List.getElem?_toArray, List.getElem?_cons_zero] at r2
    clear hso hpre hr hbx hB k1 hG' HSL hbl hbw hI hxw hBo hNo hYB hs hlp hBl hG hstop hgo
    by_cases hn0 : lv < 0
    · have t1 : decide (lv < 0) = true := by simp [hn0]
      have HN0 := Lib.hid hn0
      clear hn0
      gi_wp2_with fail
      refine ⟨trivial, ?_⟩
      gi_wp2_with fail
      obtain ⟨B', N', h1, h2, h3, h4, h5, h6, h7⟩ := HSTOP.out (fun h => by have h1 := h.1.1; have h2 := HN0.out; simp only at h1; omega) W _ (Below.refl _ _) rfl
      exact ⟨B', N', h1, h2, h3, h4, rfl, h5, h6, h7⟩
    have t1 : decide (lv < 0) = false := by simp; omega
    have HN0 := Lib.hid hn0
    clear hn0
    by_cases hn2 : lv > 2
    · have t2 : decide (2 < lv) = true := by simp; omega
      have HN2 := Lib.hid hn2
      clear hn2
      gi_wp2_with fail
      refine ⟨trivial, ?_⟩
      gi_wp2_with fail
      obtain ⟨B', N', h1, h2, h3, h4, h5, h6, h7⟩ := HSTOP.out (fun h => by have h1 := h.1.2; have h2 := HN2.out; simp only at h1; omega) W _ (Below.refl _ _) rfl
      exact ⟨B', N', h1, h2, h3, h4, rfl, h5, h6, h7⟩
    have t2 : decide (2 < lv) = false := by simp; omega
    have HN2 := Lib.hid hn2
    clear hn2
    gi_wp2_with fail
    refine ⟨trivial, ?_⟩
    refine (CallsIn.inRound l (callsIn_wide.2 HC.out)).mono ?_
    rintro e W2 ⟨b, hb, rfl, hb2⟩
    have HBB := Lib.hid hb
    have HB2 := Lib.hid hb2
    have hr2 := HFIN.out W2 hb2
    have r3 := cell_of_blk hr2 0
    have rz3 := unfrozen_of_blk hr2 0
    simp only [List.getElem?_toArray, List.getElem?_cons_zero] at r3
    clear hb hb2 x0 x1 x2 x3 x4 x5 x6 x7 x8 r2 rz hr2
    cases b with
    | false =>
      gi_wp2_with fail
      obtain ⟨B', N', h1, h2, h3, h4, h5, h6, h7⟩ := HSTOP.out (fun h => by have := HBB.out.2 h.2; cases this) W2 _ HB2.out rfl
      exact ⟨B', N', h1, h2, h3, h4, rfl, h5, h6, h7⟩
    | true =>
      gi_wp2_with fail
      exact HGO.out ⟨⟨by have := HN0.out; omega, by have := HN2.out; omega⟩, HBB.out.1 (by trivial)⟩ W2 HB2.out
  case done =>
    rintro D B N W hD hne ⟨hBo, hNo, hr, hso, hB⟩ hK
    have r0 := cell_of_blk hr 0
    have rz := unfrozen_of_blk hr 0
    simp only [List.getElem?_toArray, List.getElem?_cons_zero] at r0
    have HV := Lib.hid ((levels_walk t n).2 hso)
    have HB := Lib.hid hB
    have hK' : (W.setCell ⟨w.heap.size + 1, 0, none⟩ (.bool true)).heap[D]? = some (.deferred (some [])) := (Below.heap_setCell _ _ _ _ (by show D ≠ w.heap.size + 1; omega)).trans hK
    clear hso hB hr hK k1 HSL hbl hbw hI hBo hNo hne
    gi_wp2_with fail
    refine ⟨by simp, .inl ⟨_, _, rfl, run_takeDeferred hK', ?_⟩⟩
    have hc := (World.cell?_of_block (a := ⟨w.heap.size + 1, 0, none⟩) (w' := (W.setCell ⟨w.heap.size + 1, 0, none⟩ (.bool true)).putObj D (.deferred none)) (World.putObj_heap_other (by show w.heap.size + 1 ≠ D; omega))).trans (World.cell?_setCell_same' W ⟨w.heap.size + 1, 0, none⟩ (.bool true) (by rw [r0]; rfl))
    refine ⟨.bool true, ?_, _, ⟨fun _ => HV.out, fun _ => rfl⟩, rfl, (HB.out.setCell (p := ⟨w.heap.size + 1, 0, none⟩) (by show w.heap.size ≤ w.heap.size + 1; omega) _).trans (below_putObj _ _ _ _ (by omega))⟩
    rw [results_cell1 rfl]
    go_simp
  case stop =>
    rintro D c pre B N W hD hne hpre ⟨hBo, rfl, hr, hv, hB⟩ hK
    have HB := Lib.hid hB
    have HV := Lib.hid hv
    clear hv hB k1 HSL hbl hbw hI hBo hne
    gi_wp2_with fail
    refine ⟨by simp, .inl ⟨_, _, rfl, run_takeDeferred hK, ?_⟩⟩
    have hc := (World.cell?_of_block (a := ⟨w.heap.size + 1, 0, none⟩) (w' := W.putObj D (.deferred none)) (World.putObj_heap_other (by show w.heap.size + 1 ≠ D; omega))).trans hr
    refine ⟨.bool false, ?_, _, ⟨fun h => by simp at h, fun h => absurd h HV.out⟩, rfl, HB.out.trans (below_putObj _ _ _ _ (by omega))⟩
    rw [results_cell1 rfl]
    go_simp
end Go.Proofs.YtingnigiijdllaaDoor
namespace Go.Proofs.YtingnigiijdllaaDoor
open Go Go.RowKit Go.Shelf
attribute [local go_sem] Oper.semAt_some

set_option maxRecDepth 100000 in
set_option maxHeartbeats 2000000 in
theorem genI_any {C : Nat → Prop} {t : Tm} {v : Value} {w : World} (n : Int) (hka : KA w) (h : TM w C t v) (hn : t.wt ≤ 2097152) :
    Calls Tryd.prog 31 #[v, .int .i64 n] w (Tells ((t.IsT ∧ t.lvOk n) ∧ t.made n) w) := by
  have hnt : t.nodes ≤ 2097153 := by have := t.nodes_wt; omega
  have HKA := Lib.hid (fun (w' : World) (hb : Below w.heap.size w w') => hka.below hb)
  have HWT := Lib.hid hn
  clear hka hn
  obtain ⟨tp, tc, rp, rc, p, c, rfl, hT⟩ := h
  have HT := Lib.hid (hT.mono (C' := (· < w.heap.size)) (fun _ _ h => h))
  clear hT
  refine (callsIn_wide (n := 3)).1 ?_
  refine callsIn_of_wp_marks Tryd.func31 rfl trivial ?_ rfl
  simp only [Tryd.ntmps31, List.size_toArray, List.length_cons, List.length_nil, Nat.reduceAdd, Nat.reduceSub, Array.replicate_succ, Array.replicate_zero, List.push_toArray, List.append_toArray, List.nil_append, List.cons_append]
  gi_wp2_with fail
  obtain ⟨w0, hw0, hs0, hb0, hk0, hk1⟩ := box_new2 w (tmC t tp tc rp rc p c) #[.bool false] 35 4
  rw [hw0]
  refine ⟨trivial, ?_⟩
  refine (callsIn_wide.2 (levI_any n (HKA.out _ hb0) ⟨_, _, _, _, _, _, rfl, HT.out.stays (.of_below hb0)⟩ HWT.out)).mono ?_
  rintro e w1 ⟨r, hr, rfl, hb1⟩
  have hk01 := (hb1.block _ (by omega)).trans hk0
  have hk11 := (hb1.block _ (by omega)).trans hk1
  have hb01 : Below w.heap.size w w1 := hb0.trans (hb1.mono hb0.size)
  have hs1 := hb1.size
  have HR := Lib.hid hr
  clear hr hb1
  obtain ⟨y0, y1, y2, y3, y4, y5, y6, y7, y8⟩ := Bx9.of hk01
  have q0 := cell_of_blk hk11 0
  have qz := unfrozen_of_blk hk11 0
  simp only [List.getElem?_toArray, List.getElem?_cons_zero] at q0
  cases r with
  | false =>
    have hcc := World.cell?_setCell_same' w1 ⟨w.heap.size + 1, 0, none⟩ (.bool false) (by rw [q0]; rfl)
    have HB01 := Lib.hid hb01
    clear hk0 hk1 hb0 hw0 hk01 hk11 hb01
    gi_wp2_with fail
    refine ⟨.bool false, ?_, false, by simp only [Bool.false_eq_true, false_iff]; exact fun h => (by have := HR.out.2 h.1; cases this), rfl, HB01.out.setCell (p := ⟨w.heap.size + 1, 0, none⟩) (by show w.heap.size ≤ w.heap.size + 1; omega) _⟩
    rw [results_cell1 rfl]
    go_simp
  | true =>
  have HLV := Lib.hid ((levels_walk t n).1 (HR.out.1 (by trivial)))
  have HIS := Lib.hid (HR.out.1 (by trivial))
  clear qz q0
  gi_wp2_with fail
  refine ⟨trivial, ?_⟩
  refine (callsIn_wide.2 (nwl_any t tp tc rp rc p c n w1)).mono ?_
  rintro e wl ⟨Bn, Be, rfl, hI, hbw⟩
  have hsz := hbw.size
  have hbl : Below w.heap.size w wl := hb01.trans (hbw.mono hb01.size)
  have k1 : wl.heap[w.heap.size + 1]? = some (.cells #[.bool false] 4 (0, 0)) := (hbw.block _ (by omega)).trans hk11
  clear y0 y1 y2 y3 y4 y5 y6 y7 y8 hk01 hk11
  have HSL : TM' wl (· < w.heap.size) t tp tc rp rc p c := HT.out.stays (.of_below hbl)
  clear hk0 hk1 hb0 hw0
  gi_wp2_with fail
  refine rangeD_law (F := Fence.wide) (n := 3) rfl (by omega) (gf := 82) (lb := #[.pointer (some ⟨Bn, 0, none⟩), .pointer (some ⟨Be, 0, none⟩)]) rfl trivial (enters_of Tryd.func82 (by kernel_rfl) rfl)
    (B0 := fun b => b = w.heap.size + 1) (levels_seq hI HSL hnt (Below.refl _ _) (fun b h => by omega)) (fun _ => rfl) (fun b h h2 => by omega) (fun b h => by omega) (fun b h => by omega)
    (fun pre B N W => (∀ z, B z ↔ z = w.heap.size + 1) ∧ (∀ z, ¬ N z) ∧ W.heap[w.heap.size + 1]? = some (.cells #[.bool false] 4 (0, 0)) ∧ (∀ e ∈ pre, ¬ (e.1.kind = 11 ∧ e.2 = 1)) ∧ Below w.heap.size w W)
    (fun j pre B N W => (∀ z, B z ↔ z = w.heap.size + 1) ∧ j = .ret ∧ W.cell? ⟨w.heap.size + 1, 0, none⟩ = some (.bool false) ∧ ¬ ((t.IsT ∧ t.lvOk n) ∧ t.made n) ∧ Below w.heap.size w W)
    (fun pre B N A A' h hk => ⟨h.1, h.2.1, (hk.1.block _ (by omega)).trans h.2.2.1, h.2.2.2.1, h.2.2.2.2.trans (hk.1.mono (by omega))⟩)
    (fun j pre B N A A' h hk => ⟨h.1, h.2.1, (hk.1.cell (by show w.heap.size + 1 < _; omega)).trans h.2.2.1, h.2.2.2.1, h.2.2.2.2.trans (hk.1.mono (by omega))⟩)
    (fun x Y A A' l r hl hg hr hA => goodL_loop hg hA (by omega)) (fun pre B N A h z hz => by rw [(h.1 z).1 hz]; exact (Array.getElem?_eq_some_iff.1 h.2.2.1).1) (fun x Y A z hg hz => absurd hz (hg.2 z)) ⟨fun _ => Iff.rfl, fun _ h => h, k1, (fun e he => absurd he (List.not_mem_nil)), hbl⟩
    (fun x s a' W => ∃ bx, W.heap[bx]? = some (.cells x.2.cells 35 (0, 0)) ∧ a' = { tmps := #[tmV t tp tc rp rc p c, .int .i64 n, .pointer (some ⟨w.heap.size, 0, none⟩), undef, .pointer (some ⟨w.heap.size + 1, 0, none⟩), .pointer (some ⟨bx, 0, none⟩), .int .i64 x.1.2,
      tmV t tp tc rp rc p c, .int .i64 n, .bool true, .bool false, tmV t tp tc rp rc p c, .int .i64 n, iterL Bn Be, x.2, .int .i64 x.1.2, undef, undef, undef, undef, undef, undef, undef, undef, undef], defers := [] })
    (fun x s a' W l r o h hl => by
      obtain ⟨bx, h2, h3⟩ := h
      exact ⟨bx, (World.putObj_heap_other (fun e => by rw [e, hl] at h2; cases h2)).trans h2, h3⟩) ?assign ?body ?done ?stop
  case assign =>
    rintro l ⟨⟨x, lv⟩, v⟩ Y W K hG hK
    obtain ⟨tp', tc', rp', rc', p', c', rfl, hG'⟩ := (show TM W _ x v from hG.1)
    have HK := Lib.hid hK
    clear hK
    gi_wp2
    exact HK.out _ _ ((Below.refl _ _).alloc (Nat.le_refl _) _) ⟨W.heap.size, blk_new _ _, by simp⟩
  case body =>
    rintro l pre ⟨⟨x, lv⟩, v⟩ s a' Y B N W ⟨hBo, hNo, hr, hso, hB⟩ hpre hG hYB hs ⟨bx, hbx, rfl⟩ hlp hBl
    have hpre : pre ++ [(x, lv)] <+: walkL t n := hpre
    have hbx : W.heap[bx]? = some (.cells v.cells 35 (0, 0)) := hbx
    obtain ⟨tp', tc', rp', rc', p', c', rfl, hG'⟩ := (show TM W _ x v from hG.1)
    simp only [Value.cells] at hbx
    obtain ⟨x0, x1, x2, x3, x4, x5, x6, x7, x8⟩ := Bx9.of hbx
    have hlv : 0 ≤ lv ∧ lv ≤ 2 := (HLV.out (x, lv) (hpre.subset (by simp))).1
    have HR1 := Lib.hid hr
    have HB1 := Lib.hid hB
    have HSO := Lib.hid hso
    have HP := Lib.hid hpre
    have HBO := Lib.hid hBo
    have HFIN := Lib.hid (fun (W' : World) (hb : Below W.heap.size W W') => show W'.heap[w.heap.size + 1]? = some (.cells #[.bool false] 4 (0, 0)) from (hb.block _ (Array.getElem?_eq_some_iff.1 hr).1).trans hr)
    have hstop : (x.kind = 11 ∧ lv = 1) → ∀ (W' : World) (q : World), Below W.heap.size W W' → q = W'.setCell ⟨w.heap.size + 1, 0, none⟩ (.bool false) → ∃ B' N' : Nat → Prop, Grew B B' W.heap.size q.heap.size ∧ (∀ z, N' z → N z ∨ Y z) ∧ Holds B W q ∧ (∀ z, B' z ↔ z = w.heap.size + 1) ∧ q.cell? ⟨w.heap.size + 1, 0, none⟩ = some (.bool false) ∧ ¬ ((t.IsT ∧ t.lvOk n) ∧ t.made n) ∧ Below w.heap.size w q := by
      rintro hno W' q hb rfl
      have hr2 := HFIN.out W' hb
      have r2 := cell_of_blk hr2 0
      simp only [List.getElem?_toArray, List.getElem?_cons_zero] at r2
      have hlt := (Array.getElem?_eq_some_iff.1 hr2).1
      refine ⟨B, fun _ => False, Grew.refl (fun b hb' => ?_), fun z hz => hz.elim, Holds.setCell (.of_below hb) ⟨w.heap.size + 1, 0, none⟩ ((hBo _).2 rfl) _, hBo, World.cell?_setCell_same' W' ⟨w.heap.size + 1, 0, none⟩ (.bool false) (by rw [r2]; rfl), (fun hh => (made_walk t n).1 hh.2 (x, lv) (hpre.subset (by simp)) hno), (hB.trans (hb.mono hB.size)).setCell (p := ⟨w.heap.size + 1, 0, none⟩) (by show w.heap.size ≤ w.heap.size + 1; omega) _⟩
      rw [(hBo b).1 hb']
      simpa [World.setCell] using hlt
    have hgo : ¬ (x.kind = 11 ∧ lv = 1) → ∀ (W' : World), Below W.heap.size W W' → ∃ B' N' : Nat → Prop, Grew B B' W.heap.size W'.heap.size ∧ (∀ z, N' z → N z ∨ Y z) ∧ Holds B W W' ∧ (∀ z, B' z ↔ z = w.heap.size + 1) ∧ (∀ z, ¬ N' z) ∧ W'.heap[w.heap.size + 1]? = some (.cells #[.bool false] 4 (0, 0)) ∧ (∀ e ∈ pre ++ [(x, lv)], ¬ (e.1.kind = 11 ∧ e.2 = 1)) ∧ Below w.heap.size w W' := by
      intro hx W' hb
      have hr2 := HFIN.out W' hb
      refine ⟨B, fun _ => False, Grew.refl (fun b hb' => ?_), fun z hz => hz.elim, .of_below hb, hBo, fun _ h => h, hr2, fun e he => ?_, hB.trans (hb.mono hB.size)⟩
      · rw [(hBo b).1 hb']
        exact (Array.getElem?_eq_some_iff.1 hr2).1
      · rcases List.mem_append.1 he with he | he
        · exact hso e he
        · simp only [List.mem_singleton] at he
          subst he
          exact hx
    have HSTOP := Lib.hid hstop
    have HGO := Lib.hid hgo
    have r2 := cell_of_blk hr 0
    have rz := unfrozen_of_blk hr 0
    simp only [List.getElem?_toArray, List.getElem?_cons_zero] at r2
    clear hso hpre hr hbx hB k1 hG' HSL hbl hbw hI hBo hNo hYB hs hlp hBl hG hstop hgo
    by_cases hk : x.kind = 11
    · have t1 : (x.kind == 11) = true := by simp [hk]
      have HK := Lib.hid hk
      have HNX := Lib.hid (show nextL x.kind lv = lv - 1 by
        unfold nextL
        rw [if_neg (by omega), if_pos hk]
        unfold wrap64
        omega)
      clear hk
      gi_wp2_with fail
      refine ⟨trivial, ?_⟩
      refine (CallsIn.inRound l (callsIn_wide.2 (nextI_any x tp' tc' rp' rc' p' c' lv W))).mono ?_
      rintro e W2 ⟨rfl, hb2⟩
      rw [HNX.out]
      have HB2 := Lib.hid hb2
      have hr2 := HFIN.out W2 hb2
      have r3 := cell_of_blk hr2 0
      have rz3 := unfrozen_of_blk hr2 0
      simp only [List.getElem?_toArray, List.getElem?_cons_zero] at r3
      clear hb2 x0 x1 x2 x3 x4 x5 x6 x7 x8 r2 rz hr2
      by_cases h1 : lv = 1
      · have t2 : (lv - 1 == 0) = true := by simp; omega
        have H1 := Lib.hid h1
        clear h1
        gi_wp2_with fail
        obtain ⟨B', N', h1, h2, h3, h4, h5, h6, h7⟩ := HSTOP.out ⟨HK.out, H1.out⟩ W2 _ HB2.out rfl
        exact ⟨B', N', h1, h2, h3, h4, rfl, h5, h6, h7⟩
      · have t2 : (lv - 1 == 0) = false := by simp; omega
        have H1 := Lib.hid h1
        clear h1
        gi_wp2_with fail
        exact HGO.out (fun h => H1.out h.2) W2 HB2.out
    · have t1 : (x.kind == 11) = false := by simp [hk]
      have HK := Lib.hid hk
      clear hk
      gi_wp2_with fail
      refine ⟨trivial, ?_⟩
      gi_wp2_with fail
      exact HGO.out (fun h => HK.out h.1) W (Below.refl _ _)
  case done =>
    rintro D B N W hD hne ⟨hBo, hNo, hr, hso, hB⟩ hK
    have r0 := cell_of_blk hr 0
    have rz := unfrozen_of_blk hr 0
    simp only [List.getElem?_toArray, List.getElem?_cons_zero] at r0
    have HV := Lib.hid (And.intro HIS.out ((made_walk t n).2 hso))
    have HB := Lib.hid hB
    have hK' : (W.setCell ⟨w.heap.size + 1, 0, none⟩ (.bool true)).heap[D]? = some (.deferred (some [])) := (Below.heap_setCell _ _ _ _ (by show D ≠ w.heap.size + 1; omega)).trans hK
    clear hso hB hr hK k1 HSL hbl hbw hI hBo hNo hne
    gi_wp2_with fail
    refine ⟨by simp, .inl ⟨_, _, rfl, run_takeDeferred hK', ?_⟩⟩
    have hc := (World.cell?_of_block (a := ⟨w.heap.size + 1, 0, none⟩) (w' := (W.setCell ⟨w.heap.size + 1, 0, none⟩ (.bool true)).putObj D (.deferred none)) (World.putObj_heap_other (by show w.heap.size + 1 ≠ D; omega))).trans (World.cell?_setCell_same' W ⟨w.heap.size + 1, 0, none⟩ (.bool true) (by rw [r0]; rfl))
    refine ⟨.bool true, ?_, _, ⟨fun _ => HV.out, fun _ => rfl⟩, rfl, (HB.out.setCell (p := ⟨w.heap.size + 1, 0, none⟩) (by show w.heap.size ≤ w.heap.size + 1; omega) _).trans (below_putObj _ _ _ _ (by omega))⟩
    rw [results_cell1 rfl]
    go_simp
  case stop =>
    rintro D c pre B N W hD hne hpre ⟨hBo, rfl, hr, hv, hB⟩ hK
    have HB := Lib.hid hB
    have HV := Lib.hid hv
    clear hv hB k1 HSL hbl hbw hI hBo hne
    gi_wp2_with fail
    refine ⟨by simp, .inl ⟨_, _, rfl, run_takeDeferred hK, ?_⟩⟩
    have hc := (World.cell?_of_block (a := ⟨w.heap.size + 1, 0, none⟩) (w' := W.putObj D (.deferred none)) (World.putObj_heap_other (by show w.heap.size + 1 ≠ D; omega))).trans hr
    refine ⟨.bool false, ?_, _, ⟨fun h => by simp at h, fun h => absurd h HV.out⟩, rfl, HB.out.trans (below_putObj _ _ _ _ (by omega))⟩
    rw [results_cell1 rfl]
    go_simp
end Go.Proofs.YtingnigiijdllaaDoor
namespace Go.Proofs.YtingnigiijdllaaDoor
open Go Go.RowKit
def Tm.sc (t : Tm) : List Tm := if t.kind = 1 then [] else t.args
end Go.Proofs.YtingnigiijdllaaDoor
namespace Go.Proofs.YtingnigiijdllaaDoor
open Go Go.RowKit

section
variable {w w' : World} {g n k : Nat} {P : Nat → Value} {s : Value}
end

end Go.Proofs.YtingnigiijdllaaDoor
namespace Go.Proofs.YtingnigiijdllaaDoor
open Go Go.RowKit Go.Shelf
attribute [local go_sem] Oper.semAt_some

end Go.Proofs.YtingnigiijdllaaDoor
namespace Go.Proofs.YtingnigiijdllaaDoor
open Go Go.RowKit Go.Shelf
attribute [local go_sem] Oper.semAt_some

end Go.Proofs.YtingnigiijdllaaDoor
namespace Go.Proofs.YtingnigiijdllaaDoor
open Go Go.RowKit Go.Maps Go.WideMaps

section
variable {P : Program} {k e : TypeId} {w : World} {b n : Nat} {z : Value} {f : ByteArray → Value}
end
end Go.Proofs.YtingnigiijdllaaDoor
namespace Go.Proofs.YtingnigiijdllaaDoor
open Go Go.RowKit Go.Maps

end Go.Proofs.YtingnigiijdllaaDoor
namespace Go.Proofs.YtingnigiijdllaaDoor
open Go Go.RowKit Go.Maps

end Go.Proofs.YtingnigiijdllaaDoor
namespace Go.Proofs.YtingnigiijdllaaDoor
open Go Go.RowKit Go.Maps

end Go.Proofs.YtingnigiijdllaaDoor
namespace Go.Proofs.YtingnigiijdllaaDoor
open Go Go.RowKit Go.Maps

end Go.Proofs.YtingnigiijdllaaDoor
namespace Go.Proofs.YtingnigiijdllaaDoor
open Go Go.RowKit Go.Shelf Go.Maps

end Go.Proofs.YtingnigiijdllaaDoor
namespace Go.Proofs.YtingnigiijdllaaDoor
open Go Go.RowKit

end Go.Proofs.YtingnigiijdllaaDoor
namespace Go.Proofs.YtingnigiijdllaaDoor
open Go Go.RowKit Go.Shelf
attribute [local go_sem] Oper.semAt_some

end Go.Proofs.YtingnigiijdllaaDoor
namespace Go.Proofs.YtingnigiijdllaaDoor
open Go Go.RowKit Go.Shelf
attribute [local go_sem] Oper.semAt_some

end Go.Proofs.YtingnigiijdllaaDoor
namespace Go.Proofs.YtingnigiijdllaaDoor
open Go Go.RowKit Go.Shelf
attribute [local go_sem] Oper.semAt_some

end Go.Proofs.YtingnigiijdllaaDoor
namespace Go.Proofs.YtingnigiijdllaaDoor
open Go Go.RowKit

variable {C : Nat → Prop} {t : Tm} {v : Value} {w : World}
set_option maxRecDepth 100000 in
set_option maxHeartbeats 1000000 in
theorem rslI_any (hka : KA w) (h : TM w C t v) (hn : t.wt ≤ 2097152) : Calls Tryd.prog 11 #[v] w (Tells t.Rsl w) := by
  have HN := Lib.hid hn
  have HKA := Lib.hid (fun (w' : World) (hb : Below w.heap.size w w') => hka.below hb)
  obtain ⟨tp, tc, rp, rc, p, c, rfl, hT⟩ := h
  have HT := Lib.hid hT
  have HX0 := Lib.hid (Bx9.new w t tp tc rp rc p c 35)
  have HB0 := Lib.hid (al_below w (.cells (tmC t tp tc rp rc p c) 35))
  clear hT hn hka
  by_cases hs : stuckK t.kind
  · have HS := Lib.hid hs
    obtain ⟨g0, g1, g2, g3, g4, g5, g6, g7, g8⟩ := HX0.out
    have HR := Lib.hid (show t.Rsl ↔ t.IsT from ⟨fun h => h.1, fun h => ⟨h, Or.inl HS.out⟩⟩)
    have HC := Lib.hid (isTermI_any (v := tmV t tp tc rp rc p c) (HKA.out _ HB0.out) ⟨_, _, _, _, _, _, rfl, HT.out.stays (.of_below HB0.out)⟩ HN.out)
    go_enter Tryd.func11, Tryd.ntmps11
    rcases hs with hk | hk | hk | hk
    · have t1 : (t.kind == 2) = true := by rw [hk]; rfl
      have t2 : (t.kind == 3) = false := by rw [hk]; rfl
      have t3 : (t.kind == 6) = false := by rw [hk]; rfl
      have t4 : (t.kind == 9) = false := by rw [hk]; rfl
      have t5 : (t.kind == 10) = false := by rw [hk]; rfl
      clear hk
      go_wp2_with fail
      refine HC.out.mono ?_
      rintro e w2 ⟨r2, hr2, rfl, hb2⟩
      have HR2 := Lib.hid hr2
      have HB2 := Lib.hid (HB0.out.trans (hb2.mono HB0.out.size))
      clear hr2 hb2
      go_wp2_with fail
      go_ret
      exact ⟨r2, by rw [HR.out]; exact HR2.out, rfl, HB2.out⟩
    · have t1 : (t.kind == 2) = false := by rw [hk]; rfl
      have t2 : (t.kind == 3) = true := by rw [hk]; rfl
      have t3 : (t.kind == 6) = false := by rw [hk]; rfl
      have t4 : (t.kind == 9) = false := by rw [hk]; rfl
      have t5 : (t.kind == 10) = false := by rw [hk]; rfl
      clear hk
      go_wp2_with fail
      refine HC.out.mono ?_
      rintro e w2 ⟨r2, hr2, rfl, hb2⟩
      have HR2 := Lib.hid hr2
      have HB2 := Lib.hid (HB0.out.trans (hb2.mono HB0.out.size))
      clear hr2 hb2
      go_wp2_with fail
      go_ret
      exact ⟨r2, by rw [HR.out]; exact HR2.out, rfl, HB2.out⟩
    · have t1 : (t.kind == 2) = false := by rw [hk]; rfl
      have t2 : (t.kind == 3) = false := by rw [hk]; rfl
      have t3 : (t.kind == 6) = true := by rw [hk]; rfl
      have t4 : (t.kind == 9) = false := by rw [hk]; rfl
      have t5 : (t.kind == 10) = false := by rw [hk]; rfl
      clear hk
      go_wp2_with fail
      refine HC.out.mono ?_
      rintro e w2 ⟨r2, hr2, rfl, hb2⟩
      have HR2 := Lib.hid hr2
      have HB2 := Lib.hid (HB0.out.trans (hb2.mono HB0.out.size))
      clear hr2 hb2
      go_wp2_with fail
      go_ret
      exact ⟨r2, by rw [HR.out]; exact HR2.out, rfl, HB2.out⟩
    · have t1 : (t.kind == 2) = false := by rw [hk]; rfl
      have t2 : (t.kind == 3) = false := by rw [hk]; rfl
      have t3 : (t.kind == 6) = false := by rw [hk]; rfl
      have t4 : (t.kind == 9) = true := by rw [hk]; rfl
      have t5 : (t.kind == 10) = false := by rw [hk]; rfl
      clear hk
      go_wp2_with fail
      refine HC.out.mono ?_
      rintro e w2 ⟨r2, hr2, rfl, hb2⟩
      have HR2 := Lib.hid hr2
      have HB2 := Lib.hid (HB0.out.trans (hb2.mono HB0.out.size))
      clear hr2 hb2
      go_wp2_with fail
      go_ret
      exact ⟨r2, by rw [HR.out]; exact HR2.out, rfl, HB2.out⟩
  by_cases hk : t.kind = 10
  · have HC := Lib.hid (formI_any _ (HKA.out _ HB0.out) (HT.out.stays (.of_below HB0.out)) HN.out)
    have HK := Lib.hid hk
    obtain ⟨g0, g1, g2, g3, g4, g5, g6, g7, g8⟩ := HX0.out
    have t1 : (t.kind == 2) = false := by rw [hk]; rfl
    have t2 : (t.kind == 3) = false := by rw [hk]; rfl
    have t3 : (t.kind == 6) = false := by rw [hk]; rfl
    have t4 : (t.kind == 9) = false := by rw [hk]; rfl
    have t5 : (t.kind == 10) = true := by rw [hk]; rfl
    clear hk hs
    go_enter Tryd.func11, Tryd.ntmps11
    go_wp2_with fail
    refine HC.out.mono ?_
    rintro e w1 ⟨r, hr, rfl, hb1⟩
    have HR := Lib.hid hr
    have HB1 := Lib.hid (HB0.out.trans (hb1.mono HB0.out.size))
    clear g0 g1 g2 g3 g4 g5 g6 g7 g8
    obtain ⟨g0, g1, g2, g3, g4, g5, g6, g7, g8⟩ := HX0.out.keep hb1
    clear hr hb1 HC
    cases r with
    | false =>
      go_wp2_with fail
      go_ret
      exact ⟨false, by simp only [Bool.false_eq_true, false_iff]; exact fun h => (by have := HR.out.2 ((isT_node t).1 h.1).1; cases this), rfl, HB1.out⟩
    | true =>
      obtain ⟨x, hx⟩ := List.length_eq_one_iff.1 (isT_one (HR.out.1 rfl) (Or.inl HK.out))
      obtain ⟨b, o, tp2, tc2, rp2, rc2, p2, c2, rfl, hC, hb, h9, hP⟩ := tm_part HT.out.args 0 (by rw [hx]; simp)
      have hx0 : t.args[0]'(by rw [hx]; simp) = x := by simp [hx]
      rw [hx0] at h9 hP
      simp only [Nat.zero_mul, Nat.add_zero] at h9
      have hl1 : t.args.length = 1 := by rw [hx]; rfl
      have HWX := Lib.hid (show x.wt ≤ 2097152 by have h1 := t.wt_eq; rw [hx] at h1; simp only [wtS] at h1; have := HN.out; omega)
      have HQ := Lib.hid (rsl_quote HK.out hx)
      obtain ⟨a0, a1, a2, a3, a4, a5, a6, a7, a8⟩ := h9 w1 (.of_below HB1.out)
      have HC := Lib.hid (genI_any (v := tmV x tp2 tc2 rp2 rc2 p2 c2) 1 (HKA.out _ HB1.out) ⟨_, _, _, _, _, _, rfl, hP.stays (.of_below HB1.out)⟩ HWX.out)
      have l8 := g8
      rw [hl1] at l8
      clear h9 hP hx hx0 g8 hC hb hl1
      go_wp2_with fail
      refine HC.out.mono ?_
      rintro e w2 ⟨r2, hr2, rfl, hb2⟩
      have HR2 := Lib.hid hr2
      have HB2 := Lib.hid (HB1.out.trans (hb2.mono HB1.out.size))
      clear hr2 hb2
      go_wp2_with fail
      go_ret
      exact ⟨r2, by rw [HQ.out]; exact ⟨fun h => ⟨HR.out.1 (by trivial), HR2.out.1 h⟩, fun h => HR2.out.2 h.2⟩, rfl, HB2.out⟩
  · have HQ := Lib.hid (rsl_not hs hk)
    obtain ⟨g0, g1, g2, g3, g4, g5, g6, g7, g8⟩ := HX0.out
    have t1 : (t.kind == 2) = false := by simp; exact fun h => hs (Or.inl h)
    have t2 : (t.kind == 3) = false := by simp; exact fun h => hs (Or.inr (Or.inl h))
    have t3 : (t.kind == 6) = false := by simp; exact fun h => hs (Or.inr (Or.inr (Or.inl h)))
    have t4 : (t.kind == 9) = false := by simp; exact fun h => hs (Or.inr (Or.inr (Or.inr h)))
    have t5 : (t.kind == 10) = false := by simp; exact hk
    clear hs hk
    go_enter Tryd.func11, Tryd.ntmps11
    go_wp2_with fail
    go_ret
    exact ⟨false, by simp only [Bool.false_eq_true, false_iff]; exact HQ.out, rfl, HB0.out⟩
end Go.Proofs.YtingnigiijdllaaDoor
namespace Go.Proofs.YtingnigiijdllaaDoor
open Go Go.RowKit
structure Sd where
  tp : Option Addr
  tc : Nat
  rp : Option Addr
  rc : Nat
  p : Option Addr
  c : Nat
abbrev JobsM := List (JobM × Sd)
abbrev Sd.l (s : Sd) (x : Tm) : List Value := tmL x s.tp s.tc s.rp s.rc s.p s.c
def mcells (st : JobsM) : List Value := st.flatMap fun e => e.2.l e.1.x ++ [.pointer (some ⟨e.1.b, e.1.o, none⟩)]
theorem mcells_length (st : JobsM) : (mcells st).length = st.length * 10 := by
  induction st with
  | nil => rfl
  | cons e st ih => simp only [mcells, List.flatMap_cons, List.length_append, List.length_cons, List.length_nil] at *; omega
theorem mcells_snoc (st : JobsM) (e : JobM × Sd) : mcells (st ++ [e]) = mcells st ++ (e.2.l e.1.x ++ [.pointer (some ⟨e.1.b, e.1.o, none⟩)]) := by simp [mcells]
theorem mcells_take (st : JobsM) (e : JobM × Sd) : (mcells (st ++ [e])).take (st.length * 10) = mcells st := by
  rw [mcells_snoc, ← mcells_length, List.take_left]
theorem mcells_last (st : JobsM) (e : JobM × Sd) (i : Nat) : (mcells (st ++ [e]))[st.length * 10 + i]? = (e.2.l e.1.x ++ [.pointer (some ⟨e.1.b, e.1.o, none⟩)])[i]? := by
  have h := mcells_length st
  rw [mcells_snoc, List.getElem?_append_right (by omega), h, show st.length * 10 + i - st.length * 10 = i by omega]
def mload (st : JobsM) : Nat := (st.map fun e => e.1.x.nodes).sum
theorem mload_snoc (st : JobsM) (e : JobM × Sd) : mload (st ++ [e]) = mload st + e.1.x.nodes := by simp [mload]
theorem mload_ge (st : JobsM) : st.length ≤ mload st := by
  induction st with
  | nil => simp [mload]
  | cons e st ih =>
    have := e.1.x.nodes_eq
    simp only [mload, List.map_cons, List.sum_cons, List.length_cons] at *
    omega
theorem infoTkM : (Tryd.prog.info? 107).map (fun i => (i.zero, i.size, i.bytes)) = some (some (.agg #[.int .i64 0, .string ⟨#[]⟩, .string ⟨#[]⟩, .int .i64 0, .int .i64 0, .slice none 0 0, .int .i64 0, .slice none 0 0, .slice none 0 0, .pointer none]), 10, 144) := by kernel_rfl
theorem nodesM_take_next (ts : List Tm) (k : Nat) (h : k < ts.length) : nodesM (ts.take (k + 1)) = nodesM (ts.take k) + ts[k].nodes := nodesM_take ts k h
theorem OSt.inHeap {w : World} {ds : List D} {vs : List Value} {F : Nat → Prop} (h : OSt w ds vs F) : OSt w ds vs (fun z => F z ∧ z < w.heap.size) := by
  obtain ⟨hl, G, h1, h2, h3⟩ := h
  exact ⟨hl, fun i z => G i z ∧ z < w.heap.size, fun i d v hd hv => (h1 i d v hd hv).inHeap, fun i z hi hz => ⟨h2 i z hi hz.1, hz.2⟩, fun i j z hi hj hij a b => h3 i j z hi hj hij a.1 b.1⟩
structure EM (w wr : World) (t : Tm) (st : JobsM) (g cap : Nat) (U K : Nat → Prop) : Prop where
  own : wr.ownsRow w.heap.size 107 10 (.slice (some ⟨g, 0, none⟩) st.length cap) st.length (mcells st)
  ts : ∀ e ∈ st, TM' w (· < w.heap.size) e.1.x e.2.tp e.2.tc e.2.rp e.2.rc e.2.p e.2.c
  wt : ∀ e ∈ st, e.1.x.wt ≤ t.wt
  inv : GInv wr U K (st.map (·.1)) (w.heap.size + 1 + 1) t
  res : wr.heap[w.heap.size + 1]? = some (.cells #[.int .i64 0, .string ⟨#[]⟩, .string ⟨#[]⟩, .int .i64 0, .int .i64 0, .slice none 0 0, .int .i64 0, .slice none 0 0, .slice none 0 0] 35 (0, 0))
  below : Below w.heap.size w wr

set_option maxRecDepth 100000 in
set_option maxHeartbeats 8000000 in
theorem growM_any {C : Nat → Prop} {t : Tm} {tp : Option Addr} {tc : Nat} {rp : Option Addr} {rc : Nat} {p : Option Addr} {c : Nat} {w : World} (hS : TM' w C t tp tc rp rc p c) (hn : t.wt ≤ 1048576) :
    Calls Tryd.prog 64 #[tmV t tp tc rp rc p c, .func (.func 65) #[] #[], .func (.func 66) #[] #[]] w (NewM t w) := by
  obtain ⟨i0, hi, hz0, hz1, hz2⟩ := info_parts infoTkM
  have hnn : t.nodes ≤ 1048577 := by have := t.nodes_wt; omega
  have HN := Lib.hid hn
  have HS := Lib.hid (hS.mono (C' := (· < w.heap.size)) (fun b _ h => h))
  clear hS hn
  go_enter Tryd.func64, Tryd.ntmps64
  go_wp2_with fail
  go_loopg [8] t.nodes (fun gk v wr => ∃ (st : JobsM) (g cap : Nat) (U K : Nat → Prop), v = .slice (some ⟨g, 0, none⟩) st.length cap ∧ gk = mload st ∧ mload st ≤ t.nodes ∧ EM w wr t st g cap U K)
  case atStart =>
    obtain ⟨wl, hwl, hsz, hbl, q0, q1, q2⟩ := box_new3 w (tmC t tp tc rp rc p c) #[.int .i64 0, .string ⟨#[]⟩, .string ⟨#[]⟩, .int .i64 0, .int .i64 0, .slice none 0 0, .int .i64 0, .slice none 0 0, .slice none 0 0] #[.int .i64 0, .string ⟨#[]⟩, .string ⟨#[]⟩, .int .i64 0, .int .i64 0, .slice none 0 0, .int .i64 0, .slice none 0 0, .slice none 0 0] 35 35 35
    rw [hwl]
    have hb4 := (Below.refl wl.heap.size wl).alloc (Nat.le_refl _) (.cells #[.int .i64 t.kind, .string t.name, .string t.other, .int .i64 t.n, .int .i64 t.ty.kind, .slice tp t.ty.args.length tc, .int .i64 t.res.kind, .slice rp t.res.args.length rc, .slice p t.args.length c, .pointer (some ⟨w.heap.size + 1 + 1, 0, none⟩)] 107)
    have hsz' : wl.heap.size = w.heap.size + 1 + 1 + 1 := hsz
    refine ⟨[(⟨t, w.heap.size + 1 + 1, 0⟩, ⟨tp, tc, rp, rc, p, c⟩)], w.heap.size + 1 + 1 + 1, 1, fun b => b = w.heap.size + 1 + 1, fun _ => False, rfl, by simp [mload], by simp [mload], ?_, ?_, ?_, ?_, ?_, ?_⟩
    · have h1 := World.ownsRow_lit (base := w.heap.size) (e := 107) (size := 10) wl #[.int .i64 t.kind, .string t.name, .string t.other, .int .i64 t.n, .int .i64 t.ty.kind, .slice tp t.ty.args.length tc, .int .i64 t.res.kind, .slice rp t.res.args.length rc, .slice p t.args.length c, .pointer (some ⟨w.heap.size + 1 + 1, 0, none⟩)] 1 (by omega) (by unfold maxLen; omega) rfl
      rw [hsz'] at h1
      exact h1
    · intro e he
      simp only [List.mem_singleton] at he
      subst he
      exact HS.out
    · intro e he
      simp only [List.mem_singleton] at he
      subst he
      exact Nat.le_refl _
    · exact (GInv.start q2 rfl).frame hb4.size (fun c hc => hb4.block c (by
        rcases hc with hc | hc
        · have hc : c = w.heap.size + 1 + 1 := hc
          omega
        · exact hc.elim))
    · exact (hb4.block _ (by omega)).trans q1
    · exact hbl.trans (hb4.mono hbl.size)
  case round =>
    obtain ⟨st, g, cap, U, K, rfl, rfl, hle, hM⟩ := hrel
    rename World => wo
    rcases snoc_cases st with rfl | ⟨st0, e, rfl⟩
    · have HM := Lib.hid hM
      obtain ⟨vs, ⟨hv9, hvc⟩, ro⟩ := hM.inv.done
      obtain ⟨v0, v1, v2, v3, v4, v5, v6, v7, v8, rfl⟩ : ∃ v0 v1 v2 v3 v4 v5 v6 v7 v8, vs = [v0, v1, v2, v3, v4, v5, v6, v7, v8] := by
        match vs, hv9 with
        | [v0, v1, v2, v3, v4, v5, v6, v7, v8], _ => exact ⟨v0, v1, v2, v3, v4, v5, v6, v7, v8, rfl⟩
      have hmm := ro.ms.2
      rw [t.ds_eq] at hmm
      obtain rfl := (hmm 0 _ _ rfl rfl).val
      obtain rfl := (hmm 1 _ _ rfl rfl).val
      obtain rfl := (hmm 2 _ _ rfl rfl).val
      obtain rfl := (hmm 3 _ _ rfl rfl).val
      obtain rfl := (hmm 4 _ _ rfl rfl).val
      obtain ⟨tp1, tc1, rfl⟩ := (hmm 5 _ _ rfl rfl).form
      obtain rfl := (hmm 6 _ _ rfl rfl).val
      obtain ⟨rp1, rc1, rfl⟩ := (hmm 7 _ _ rfl rfl).form
      obtain ⟨p1, c1, rfl⟩ := (hmm 8 _ _ rfl rfl).form
      have f0 := hvc 0 (by omega)
      have f1 := hvc 1 (by omega)
      have f2 := hvc 2 (by omega)
      have f3 := hvc 3 (by omega)
      have f4 := hvc 4 (by omega)
      have f5 := hvc 5 (by omega)
      have f6 := hvc 6 (by omega)
      have f7 := hvc 7 (by omega)
      have f8 := hvc 8 (by omega)
      simp only [Nat.zero_add, List.getElem?_cons_zero, List.getElem?_cons_succ] at f0 f1 f2 f3 f4 f5 f6 f7 f8
      have q0 := cell_of_blk hM.res 0
      have q1 := cell_of_blk hM.res 1
      have q2 := cell_of_blk hM.res 2
      have q3 := cell_of_blk hM.res 3
      have q4 := cell_of_blk hM.res 4
      have q5 := cell_of_blk hM.res 5
      have q6 := cell_of_blk hM.res 6
      have q7 := cell_of_blk hM.res 7
      have q8 := cell_of_blk hM.res 8
      have qz := unfrozen_of_blk hM.res
      simp only [List.getElem?_toArray, List.getElem?_cons_zero, List.getElem?_cons_succ] at q0 q1 q2 q3 q4 q5 q6 q7 q8
      have HRO := Lib.hid ro
      clear hM ro hvc hmm hv9
      go_wp2_with fail
      refine bodyPost_ret (v := tmV t tp1 tc1 rp1 rc1 p1 c1) ?_ rfl ?_
      · rw [results_cell1 rfl]
        go_simp
      · have hst := setN_stays (tmL t tp1 tc1 rp1 rc1 p1 c1) (fun z => w.heap.size + 1 + 1 < z) wo (w.heap.size + 1) 0 (by omega)
        have hbl := setN_below (tmL t tp1 tc1 rp1 rc1 p1 c1) w.heap.size wo (w.heap.size + 1) 0 (by omega)
        have hsz := setN_size (tmL t tp1 tc1 rp1 rc1 p1 c1) wo (w.heap.size + 1) 0
        simp only [tmL, setN, Nat.zero_add, Nat.reduceAdd] at hst hbl hsz
        refine ⟨_, rfl, ⟨tp1, tc1, rp1, rc1, p1, c1, rfl, (HRO.out.stays hst).inHeap.mono (fun z hz => ⟨by omega, hz.2⟩)⟩, HM.out.below.trans hbl⟩
    · obtain ⟨⟨x, b, o⟩, ⟨tpx, tcx, rpx, rcx, px, cx⟩⟩ := e
      have hT := hM.ts (⟨x, b, o⟩, ⟨tpx, tcx, rpx, rcx, px, cx⟩) (by simp)
      have hwx := hM.wt (⟨x, b, o⟩, ⟨tpx, tcx, rpx, rcx, px, cx⟩) (by simp)
      simp only at hT hwx
      have hlx := hT.args.len.1
      have hlen : (st0 ++ [((⟨x, b, o⟩, ⟨tpx, tcx, rpx, rcx, px, cx⟩) : JobM × Sd)]).length = st0.length + 1 := by simp
      have hown := hM.own
      rw [hlen] at hown
      rw [hlen]
      obtain ⟨hcap1, hcap2, hg1, hg2⟩ := row_cap hown
      have k0 := (hown.cellAt (st0.length * 10 + 0) (by omega)).trans (mcells_last st0 _ 0)
      have k1 := (hown.cellAt (st0.length * 10 + 1) (by omega)).trans (mcells_last st0 _ 1)
      have k2 := (hown.cellAt (st0.length * 10 + 2) (by omega)).trans (mcells_last st0 _ 2)
      have k3 := (hown.cellAt (st0.length * 10 + 3) (by omega)).trans (mcells_last st0 _ 3)
      have k4 := (hown.cellAt (st0.length * 10 + 4) (by omega)).trans (mcells_last st0 _ 4)
      have k5 := (hown.cellAt (st0.length * 10 + 5) (by omega)).trans (mcells_last st0 _ 5)
      have k6 := (hown.cellAt (st0.length * 10 + 6) (by omega)).trans (mcells_last st0 _ 6)
      have k7 := (hown.cellAt (st0.length * 10 + 7) (by omega)).trans (mcells_last st0 _ 7)
      have k8 := (hown.cellAt (st0.length * 10 + 8) (by omega)).trans (mcells_last st0 _ 8)
      have k9 := (hown.cellAt (st0.length * 10 + 9) (by omega)).trans (mcells_last st0 _ 9)
      simp only [Sd.l, tmL, List.cons_append, List.nil_append, List.getElem?_cons_zero, List.getElem?_cons_succ] at k0 k1 k2 k3 k4 k5 k6 k7 k8 k9
      rw [Nat.add_zero] at k0
      unfold maxLen at hcap2
      have hlx0 : (mload st0 + x.nodes) ≤ t.nodes := by rw [mload_snoc] at hle; exact hle
      have HLE := Lib.hid hlx0
      obtain ⟨wn, hwn, hsn, hbn, rn⟩ := box_new wo #[.int .i64 x.kind, .string x.name, .string x.other, .int .i64 x.n, .int .i64 x.ty.kind, .slice tpx x.ty.args.length tcx, .int .i64 x.res.kind, .slice rpx x.res.args.length rcx, .slice px x.args.length cx, .pointer (some ⟨b, o, none⟩)] 107
      have hwe := x.wt_eq
      have hge := wtS_ge x.args
      have HC := Lib.hid (copyNM_any (w := wn) ((hT.stays (.of_below hM.below)).stays (.of_below hbn)) (by have := HN.out; omega) (by have := HN.out; omega) (by have := HN.out; omega))
      have HM := Lib.hid hM
      have HT := Lib.hid hT
      have HOWN := Lib.hid hown
      have HWX := Lib.hid hwx
      have HWN := Lib.hid (And.intro hsn (And.intro hbn rn))
      have HWW := Lib.hid hwn
      have hlx2 : x.args.length ≤ 1048576 := by have := HN.out; omega
      clear hM hT hown hle hlx0 hsn hbn rn hwn hwx hwe hge
      have i0' : (0 : Int) ≤ (st0.length : Int) := Int.natCast_nonneg _
      have i1' : (st0.length : Int) < ((st0.length : Int) + 1) := by omega
      go_wp2_with fail
      rw [HWW.out]
      refine HC.out.mono ?_
      rintro e w1 ⟨tp1, tc1, rp1, rc1, p1, c1, bb, F1, F2, rfl, ho1, ho2, hF1, hF2, hpart, hb1⟩
      obtain ⟨hsn, hbn, rn⟩ := HWN.out
      have hb01 : Below wo.heap.size wo w1 := hbn.trans (hb1.mono hbn.size)
      have rn1 := (hb1.block wo.heap.size (by omega)).trans rn
      have hmap : (st0 ++ [((⟨x, b, o⟩, ⟨tpx, tcx, rpx, rcx, px, cx⟩) : JobM × Sd)]).map (·.1) = st0.map (·.1) ++ [⟨x, b, o⟩] := by simp
      have inv0 := HM.out.inv
      rw [hmap] at inv0
      have inv1 : GInv w1 U K (st0.map (·.1) ++ [⟨x, b, o⟩]) (w.heap.size + 1 + 1) t := inv0.frame hb01.size (fun k hk => hb01.block k (inv0.low hk))
      obtain ⟨wB, hwB, hsB, hbB, rB⟩ := box_new w1 (tmC x tp1 tc1 rp1 rc1 p1 c1) 35
      have inv2 : GInv wB U K (st0.map (·.1) ++ [⟨x, b, o⟩]) (w.heap.size + 1 + 1) t := inv1.frame hbB.size (fun k hk => hbB.block k (inv1.low hk))
      obtain ⟨hUb, hcs, hpar⟩ := inv2.loc ⟨x, b, o⟩ (by simp)
      simp only at hUb hcs hpar
      obtain ⟨u0', l0⟩ := hcs 0 (by omega)
      obtain ⟨u1', l1⟩ := hcs 1 (by omega)
      obtain ⟨u2', l2⟩ := hcs 2 (by omega)
      obtain ⟨u3', l3⟩ := hcs 3 (by omega)
      obtain ⟨u4', l4⟩ := hcs 4 (by omega)
      obtain ⟨u5', l5⟩ := hcs 5 (by omega)
      obtain ⟨u6', l6⟩ := hcs 6 (by omega)
      obtain ⟨u7', l7⟩ := hcs 7 (by omega)
      obtain ⟨u8', l8⟩ := hcs 8 (by omega)
      rw [Nat.add_zero] at l0
      obtain ⟨hRb, hbw1, cur1, hcur1⟩ := inv2.lt b hUb
      have hs01 := hb01.size
      have hsz1 := hb1.size
      have lz := unfrozen_of_blk hcur1
      have hfit : o + 9 ≤ cur1.size := by
        have h8 := l8
        rw [cell_of_blk' hcur1] at h8
        have := (Array.getElem?_eq_some_iff.1 h8).1
        omega
      have rn2 := (hbB.block wo.heap.size (by omega)).trans rn1
      have n9 := cell_of_blk rn2 9
      simp only [List.getElem?_toArray, List.getElem?_cons_zero, List.getElem?_cons_succ] at n9
      obtain ⟨y0, y1, y2, y3, y4, y5, y6, y7, y8⟩ := Bx9.of rB
      rw [← hwB] at n9 l0 l1 l2 l3 l4 l5 l6 l7 l8 lz y0 y1 y2 y3 y4 y5 y6 y7 y8
      have HWB := Lib.hid hwB
      clear hwB k0 k1 k2 k3 k4 k5 k6 k7 k8 k9
      go_upto_region 8 with fail
      rw [HWB.out]
      obtain ⟨wm, hwm⟩ : ∃ wm, (((((((((wB.setCell ⟨b, o, none⟩ (.int .i64 x.kind)).setCell ⟨b, o + 1, none⟩ (.string x.name)).setCell ⟨b, o + 2, none⟩ (.string x.other)).setCell ⟨b, o + 3, none⟩ (.int .i64 x.n)).setCell ⟨b, o + 4, none⟩ (.int .i64 x.ty.kind)).setCell ⟨b, o + 5, none⟩ (.slice tp1 x.ty.args.length tc1)).setCell ⟨b, o + 6, none⟩ (.int .i64 x.res.kind)).setCell ⟨b, o + 7, none⟩ (.slice rp1 x.res.args.length rc1)).setCell ⟨b, o + 8, none⟩ (.slice p1 x.args.length c1)) = wm := ⟨_, rfl⟩
      rw [hwm]
      have hblkm : wm.heap[b]? = some (.cells (setA cur1 o (tmL x tp1 tc1 rp1 rc1 p1 c1)) 35 (0, 0)) := hwm ▸ setN_block (tmL x tp1 tc1 rp1 rc1 p1 c1) wB b o cur1 _ hcur1
      have hother : ∀ z, z ≠ b → wm.heap[z]? = wB.heap[z]? := fun z hz => hwm ▸ setN_heap_ne (w := wB) (o := o) (vs := tmL x tp1 tc1 rp1 rc1 p1 c1) hz
      have hsm : wm.heap.size = wB.heap.size := hwm ▸ setN_size (tmL x tp1 tc1 rp1 rc1 p1 c1) wB b o
      have hBm : Below w.heap.size w wm := ((HM.out.below.trans (hb01.mono HM.out.below.size)).trans (hbB.mono (Nat.le_trans HM.out.below.size hs01))).trans (hwm ▸ setN_below (tmL x tp1 tc1 rp1 rc1 p1 c1) w.heap.size wB b o (by omega))
      have h9 : Has9 wm b o (tmL x tp1 tc1 rp1 rc1 p1 c1) := ⟨rfl, fun j hj => by rw [cell_of_blk' hblkm]; exact setA_in _ cur1 o j hj hfit⟩
      have hsame : ∀ c, U c → ∀ q, ¬ (c = b ∧ o ≤ q ∧ q < o + 9) → wm.cell? ⟨c, q, none⟩ = wB.cell? ⟨c, q, none⟩ := fun c hc q hq => by
        by_cases hcb : c = b
        · subst hcb
          rw [cell_of_blk' hblkm, cell_of_blk' hcur1]
          exact setA_out _ cur1 o q (by show q < o ∨ o + 9 ≤ q; omega)
        · exact World.cell?_of_block (a := ⟨c, q, none⟩) (hother c hcb)
      have hshape : ∀ c, U c → ∀ cur : Array Value, wB.heap[c]? = some (.cells cur 35 (0, 0)) → ∃ cur' : Array Value, wm.heap[c]? = some (.cells cur' 35 (0, 0)) ∧ cur'.size = cur.size := fun c hc cur hcur => by
        by_cases hcb : c = b
        · subst hcb
          rw [hcur1] at hcur
          simp only [Option.some.injEq, Obj.cells.injEq, and_true] at hcur
          subst hcur
          exact ⟨_, hblkm, setA_size _ _ _⟩
        · exact ⟨cur, (hother c hcb).trans hcur, rfl⟩
      have invN : GInv wn U K (st0.map (·.1) ++ [⟨x, b, o⟩]) (w.heap.size + 1 + 1) t := inv0.frame hbn.size (fun k hk => hbn.block k (inv0.low hk))
      have hbn' : b < wn.heap.size := (invN.lt b hUb).2.1
      have hUN : ∀ z, U z ∨ K z → wB.heap[z]? = wn.heap[z]? := fun z hz => by
        have hz1 := invN.low hz
        exact (hbB.block z (by omega)).trans (hb1.block z hz1)
      have hsameN : ∀ c, U c → ∀ q, ¬ (c = b ∧ o ≤ q ∧ q < o + 9) → wm.cell? ⟨c, q, none⟩ = wn.cell? ⟨c, q, none⟩ := fun c hc q hq => (hsame c hc q hq).trans (World.cell?_of_block (a := ⟨c, q, none⟩) (hUN c (Or.inl hc)))
      have hshapeN : ∀ c, U c → ∀ cur : Array Value, wn.heap[c]? = some (.cells cur 35 (0, 0)) → ∃ cur' : Array Value, wm.heap[c]? = some (.cells cur' 35 (0, 0)) ∧ cur'.size = cur.size := fun c hc cur hcur => hshape c hc cur ((hUN c (Or.inl hc)).trans hcur)
      have hkeepN : ∀ z, K z → wm.heap[z]? = wn.heap[z]? := fun z hz => (hother z (fun e => (invN.lt b hUb).2.2.not (e ▸ invN.ltK z hz))).trans (hUN z (Or.inr hz))
      have hmov : ∀ z, wn.heap.size ≤ z → z < w1.heap.size → wm.heap[z]? = w1.heap[z]? := fun z hz hl => (hother z (by omega)).trans (hbB.block z hl)
      have hb1' : w1.heap.size ≤ wm.heap.size := by omega
      have hEI := invN.node (wn := wm) (by omega) hsameN hshapeN hkeepN h9 (ho1.stays ⟨hb1', fun z hz hl => hmov z (hF1 z hz).1 hl⟩) (ho2.stays ⟨hb1', fun z hz hl => hmov z (hF2 z hz).1 hl⟩)
        (fun z hz => ⟨(hF1 z hz).1, (hF1 z hz).2.1.elim fun cur h => ⟨cur, (hmov z (hF1 z hz).1 (blk_lt h)).trans h⟩, (hF1 z hz).2.2⟩) (fun z hz => ⟨(hF2 z hz).1, (hF2 z hz).2.elim fun cur h => ⟨cur, (hmov z (hF2 z hz).1 (blk_lt h)).trans h⟩⟩)
        (hpart.keep (Nat.le_refl _) (fun hb hl => hmov bb hb hl))
      obtain ⟨U', hU'⟩ : ∃ U' : Nat → Prop, U' = fun z => U z ∨ (0 < x.args.length ∧ z = bb) := ⟨_, rfl⟩
      obtain ⟨K', hK'⟩ : ∃ K' : Nat → Prop, K' = fun z => K z ∨ F1 z ∨ F2 z := ⟨_, rfl⟩
      rw [← hU', ← hK'] at hEI
      have hps : 0 < x.args.length → p1 = some ⟨bb, 0, none⟩ := fun h0 => by
        rcases hpart with ⟨e, _⟩ | ⟨_, _, e, _⟩
        · omega
        · exact e
      have hgb : g ≠ b := (inv0.lt b hUb).2.2.elim fun cur0 h => row_ne HOWN.out h (by decide)
      have hown1 : wm.ownsRow w.heap.size 107 10 (.slice (some ⟨g, 0, none⟩) st0.length cap) st0.length (mcells st0) := by
        have h2 := row_take (row_of_block HOWN.out ((hother g hgb).trans ((hbB.block g (by omega)).trans (hb01.block g hg2)))) (Nat.le_succ _)
        rw [mcells_take] at h2
        exact h2
      have hresm : wm.heap[w.heap.size + 1]? = some (.cells #[.int .i64 0, .string ⟨#[]⟩, .string ⟨#[]⟩, .int .i64 0, .int .i64 0, .slice none 0 0, .int .i64 0, .slice none 0 0, .slice none 0 0] 35 (0, 0)) := by
        have hlt := (Array.getElem?_eq_some_iff.1 HM.out.res).1
        exact (hother _ (by omega)).trans ((hbB.block _ (by omega)).trans ((hb01.block _ hlt).trans HM.out.res))
      have hbm1 : wm.heap[w1.heap.size]? = some (.cells (tmC x tp1 tc1 rp1 rc1 p1 c1) 35 (0, 0)) := (hother _ (by omega)).trans rB
      have hlps : x.args.length ≤ 9223372036854775807 := hlx
      have HEI := Lib.hid hEI
      have HPS := Lib.hid hps
      have HOW := Lib.hid hown1
      have HRES := Lib.hid hresm
      have HBM := Lib.hid hBm
      have HNX := Lib.hid (show x.nodes = 1 + nodesM x.args from x.nodes_eq)
      have HWA := Lib.hid (show wtS x.args ≤ t.wt by have := x.wt_eq; have := HWX.out; omega)
      obtain ⟨z0, z1, z2, z3, z4, z5, z6, z7, z8⟩ := Bx9.of hbm1
      clear hEI hps hown1 hresm hBm hwm hpart hb1 hsn hbn rn hb01 rn1 hmap inv0 inv1 hsB hbB rB inv2 hRb hbw1 hcur1 hs01 hsz1 rn2 hblkm hsm hother hsame hshape invN hUN hsameN hshapeN hkeepN hmov hb1' HC HWN HWW HWB hUb h9 hfit ho1 ho2 hF1 hF2 hbm1 hgb hbn' hU' hK' hcs hpar lz n9 l0 l1 l2 l3 l4 l5 l6 l7 l8 y0 y1 y2 y3 y4 y5 y6 y7 y8
      go_wp2_with fail
      refine (argsM_any _ _ _ _ _ _ _ _).mono ?_
      rintro e w2 ⟨rfl, hb2⟩
      have hs2 := hb2.size
      have inv3 : GInv w2 U' K' (st0.map (·.1) ++ kidsM bb x.args) (w.heap.size + 1 + 1) t := HEI.out.frame hs2 (fun k hk => hb2.block k (HEI.out.low hk))
      have HI3 := Lib.hid inv3
      have HO3 := Lib.hid (row_below HOW.out hb2)
      have HR3 := Lib.hid ((hb2.block _ (Array.getElem?_eq_some_iff.1 HRES.out).1).trans HRES.out)
      have HB3 := Lib.hid (HBM.out.trans (hb2.mono HBM.out.size))
      clear hb2 inv3 hs2 z0 z1 z2 z3 z4 z5 z6 z7 z8
      go_wp2_with fail
      go_loopw [8, 47] (fun v i wr => ∃ (k : Nat) (stx : JobsM) (g' cap' : Nat), v = .slice (some ⟨g', 0, none⟩) stx.length cap' ∧ i = .int .i64 k ∧ k ≤ x.args.length ∧ wr.ownsRow w.heap.size 107 10 (.slice (some ⟨g', 0, none⟩) stx.length cap') stx.length (mcells stx) ∧
        (∀ e ∈ stx, TM' w (· < w.heap.size) e.1.x e.2.tp e.2.tc e.2.rp e.2.rc e.2.p e.2.c) ∧ (∀ e ∈ stx, e.1.x.wt ≤ t.wt) ∧ stx.map (·.1) = st0.map (·.1) ++ (kidsM bb x.args).take k ∧ mload stx = mload st0 + nodesM (x.args.take k) ∧ (∀ c, U' c ∨ K' c → wr.heap[c]? = w2.heap[c]?) ∧
        wr.heap[w.heap.size + 1]? = some (.cells #[.int .i64 0, .string ⟨#[]⟩, .string ⟨#[]⟩, .int .i64 0, .int .i64 0, .slice none 0 0, .int .i64 0, .slice none 0 0, .slice none 0 0] 35 (0, 0)) ∧ Below w.heap.size w wr ∧ w2.heap.size ≤ wr.heap.size) (fun _ i _ => x.args.length - (intOf i).toNat)
      case atStart => exact ⟨0, st0, g, cap, rfl, rfl, Nat.zero_le _, HO3.out, fun e he => HM.out.ts e (List.mem_append_left _ he), fun e he => HM.out.wt e (List.mem_append_left _ he), by simp, by simp [nodesM], fun _ _ => rfl, HR3.out, HB3.out, Nat.le_refl _⟩
      case round =>
        obtain ⟨k, stx, g', cap', rfl, rfl, hk, hox, htx, hwtx, hmx, hlx2, hux, hrx, hBx, hsx⟩ := hrel
        have HOX := Lib.hid hox
        have HTX := Lib.hid htx
        have HWTX := Lib.hid hwtx
        have HMX := Lib.hid hmx
        have HLX := Lib.hid hlx2
        have HUX := Lib.hid hux
        have HRX := Lib.hid hrx
        have HBB := Lib.hid hBx
        have HSX := Lib.hid hsx
        clear hox htx hwtx hmx hlx2 hux hrx hBx hsx
        by_cases hlk : k < x.args.length
        · obtain ⟨b3, o3, tp', tc', rp', rc', p', c', hpy, hCb, hb3lt, h9, hTk⟩ := tm_part HT.out.args k hlk
          subst hpy
          obtain ⟨f0, f1, f2, f3, f4, f5, f6, f7, f8⟩ := h9 wr (.of_below HBB.out)
          have hpsk := HPS.out (by omega)
          subst hpsk
          have hbnd : stx.length ≤ 1048577 := by
            have h1 := mload_ge stx
            have h2 := HLX.out
            have h3 := nodesM_take_le x.args k
            have h4 := HLE.out
            have h5 := HNX.out
            omega
          have HO0 := Lib.hid (show (wr.drew).ownsRow w.heap.size 107 10 (.slice (some ⟨g', 0, none⟩) stx.length cap') stx.length (mcells stx) from row_below HOX.out (Below.refl wr.heap.size wr).drew)
          have hgg := (row_cap HOX.out).2.2.1
          have hsz6 : w.heap.size ≤ wr.heap.size := HBB.out.size
          have HKA := Lib.hid (fun (w' : World) (g2 cap2 : Nat) (hA : Appd wr.drew w' w.heap.size 107 10 (.slice (some ⟨g', 0, none⟩) stx.length cap') stx.length (mcells stx) [.int .i64 x.args[k].kind, .string x.args[k].name, .string x.args[k].other, .int .i64 x.args[k].n, .int .i64 x.args[k].ty.kind, .slice tp' x.args[k].ty.args.length tc', .int .i64 x.args[k].res.kind, .slice rp' x.args[k].res.args.length rc', .slice p' x.args[k].args.length c', .pointer (some ⟨bb, k * 9, none⟩)] g2 cap2) =>
            (⟨keepApp hA f0 (fun e => by simp [Value.ownBlock] at e; omega), keepApp hA f1 (fun e => by simp [Value.ownBlock] at e; omega), keepApp hA f2 (fun e => by simp [Value.ownBlock] at e; omega), keepApp hA f3 (fun e => by simp [Value.ownBlock] at e; omega), keepApp hA f4 (fun e => by simp [Value.ownBlock] at e; omega), keepApp hA f5 (fun e => by simp [Value.ownBlock] at e; omega), keepApp hA f6 (fun e => by simp [Value.ownBlock] at e; omega), keepApp hA f7 (fun e => by simp [Value.ownBlock] at e; omega), keepApp hA f8 (fun e => by simp [Value.ownBlock] at e; omega)⟩ :
              w'.cell? ⟨b3, o3 + k * 9, none⟩ = some (.int .i64 x.args[k].kind) ∧ w'.cell? ⟨b3, o3 + k * 9 + 1, none⟩ = some (.string x.args[k].name) ∧ w'.cell? ⟨b3, o3 + k * 9 + 2, none⟩ = some (.string x.args[k].other) ∧ w'.cell? ⟨b3, o3 + k * 9 + 3, none⟩ = some (.int .i64 x.args[k].n) ∧ w'.cell? ⟨b3, o3 + k * 9 + 4, none⟩ = some (.int .i64 x.args[k].ty.kind) ∧ w'.cell? ⟨b3, o3 + k * 9 + 5, none⟩ = some (.slice tp' x.args[k].ty.args.length tc') ∧ w'.cell? ⟨b3, o3 + k * 9 + 6, none⟩ = some (.int .i64 x.args[k].res.kind) ∧ w'.cell? ⟨b3, o3 + k * 9 + 7, none⟩ = some (.slice rp' x.args[k].res.args.length rc') ∧ w'.cell? ⟨b3, o3 + k * 9 + 8, none⟩ = some (.slice p' x.args[k].args.length c')))
          have HTK := Lib.hid hTk
          have hwk := wtS_at x.args k hlk
          have HWK := Lib.hid (show x.args[k].wt ≤ t.wt by have := HWA.out; omega)
          have ii0 : (0 : Int) ≤ (k : Int) := Int.natCast_nonneg _
          have ii1 : (k : Int) < (x.args.length : Int) := by omega
          clear h9 hTk hCb hwk
          go_wp2_with fail
          go_region_held3 (fun w' => w'.cell? ⟨b3, o3 + k * 9, none⟩ = some (.int .i64 x.args[k].kind) ∧ w'.cell? ⟨b3, o3 + k * 9 + 1, none⟩ = some (.string x.args[k].name) ∧ w'.cell? ⟨b3, o3 + k * 9 + 2, none⟩ = some (.string x.args[k].other) ∧ w'.cell? ⟨b3, o3 + k * 9 + 3, none⟩ = some (.int .i64 x.args[k].n) ∧ w'.cell? ⟨b3, o3 + k * 9 + 4, none⟩ = some (.int .i64 x.args[k].ty.kind) ∧ w'.cell? ⟨b3, o3 + k * 9 + 5, none⟩ = some (.slice tp' x.args[k].ty.args.length tc') ∧ w'.cell? ⟨b3, o3 + k * 9 + 6, none⟩ = some (.int .i64 x.args[k].res.kind) ∧ w'.cell? ⟨b3, o3 + k * 9 + 7, none⟩ = some (.slice rp' x.args[k].res.args.length rc') ∧ w'.cell? ⟨b3, o3 + k * 9 + 8, none⟩ = some (.slice p' x.args[k].args.length c'))
            (first
              | exact HKA.out _ _ _ hA
              | (go_keep; done)
              | exact ⟨f0, f1, f2, f3, f4, f5, f6, f7, f8⟩)
            (first
              | (refine step_app1 (w0 := wr.drew) (v := .slice (some ⟨g', 0, none⟩) stx.length cap') (n := stx.length) (xs := mcells stx) rfl (.tmp 50) (.tmp 59) rfl Tryd.underlying108 hi hz0 hz1 hz2 rfl (by decide) rfl HO0.out _ rfl (by simp) rfl (fun u hu => by simp at hu; rcases hu with rfl | rfl | rfl | rfl | rfl | rfl | rfl | rfl | rfl | rfl <;> rfl) (by unfold maxLen; omega) (by omega) (by simp; omega) ?_; intro w' g2 cap2 hA))
          rename_i hH
          have HA := Lib.hid hA
          clear hH hA f0 f1 f2 f3 f4 f5 f6 f7 f8
          go_wp2_with fail
          go_roundw
          case rel =>
            have hinv : GInv wr U' K' _ (w.heap.size + 1 + 1) t := HI3.out.frame HSX.out HUX.out
            have keepB : ∀ (cc : Nat) (cs : Array Value) (e' : TypeId), wr.heap[cc]? = some (.cells cs e' (0, 0)) → e' ≠ 107 → w'.heap[cc]? = wr.heap[cc]? := fun cc cs e' hcc hne => by
              have hlt := (Array.getElem?_eq_some_iff.1 hcc).1
              exact (HA.out.kept cc hlt (fun e => row_ne HOX.out hcc hne (by simpa [Value.ownBlock] using e))).1
            have hown' := HA.out.own
            have hszA := HA.out.size
            have hsx2 := HSX.out
            refine ⟨k + 1, stx ++ [(⟨x.args[k], bb, k * 9⟩, ⟨tp', tc', rp', rc', p', c'⟩)], g2, cap2, by rw [List.length_append]; rfl, by go_num, by omega, ?_, ?_, ?_, ?_, ?_, fun cc hcc => ?_, (keepB _ _ _ HRX.out (by decide)).trans HRX.out, HBB.out.trans ((Below.refl _ wr).drew.trans HA.out.below), ?_⟩
            · rw [List.length_append, mcells_snoc]
              exact hown'
            · intro e he
              rcases List.mem_append.1 he with he | he
              · exact HTX.out e he
              · simp only [List.mem_singleton] at he
                subst he
                exact HTK.out
            · intro e he
              rcases List.mem_append.1 he with he | he
              · exact HWTX.out e he
              · simp only [List.mem_singleton] at he
                subst he
                exact HWK.out
            · rw [List.map_append, HMX.out, List.take_add_one, kidsM_get (List.getElem?_eq_getElem hlk), List.append_assoc]
              rfl
            · rw [mload_snoc, HLX.out, nodesM_take_next _ _ hlk, Nat.add_assoc]
            · rcases hcc with hcc | hcc
              · obtain ⟨_, _, cur, hcur⟩ := hinv.lt cc hcc
                exact (keepB cc cur _ hcur (by decide)).trans (HUX.out cc (Or.inl hcc))
              · obtain ⟨cur, hcur⟩ := hinv.ltK cc hcc
                exact (keepB cc cur _ hcur (by decide)).trans (HUX.out cc (Or.inr hcc))
            · have h1 : wr.heap.size ≤ wr.drew.heap.size := Nat.le_refl _
              omega
          case measure => simp [intOf]; omega
        · obtain rfl : k = x.args.length := by omega
          go_wp2_with fail
          go_roundg (mload stx)
          case rel =>
            have h1 := HLE.out
            have h2 := HLX.out
            rw [List.take_length] at h2
            have h3 := HNX.out
            have h4 := HMX.out
            rw [← kidsM_length bb x.args, List.take_length] at h4
            have hinv : GInv wr U' K' (stx.map (·.1)) (w.heap.size + 1 + 1) t := by
              rw [h4]
              exact HI3.out.frame HSX.out HUX.out
            exact ⟨stx, g', cap', _, _, rfl, rfl, by omega, HOX.out, HTX.out, HWTX.out, hinv, HRX.out, HBB.out⟩
          case measure =>
            have h2 := HLX.out
            rw [List.take_length] at h2
            rw [mload_snoc]
            have h3 := HNX.out
            simp only
            omega
set_option maxRecDepth 100000 in
set_option maxHeartbeats 2000000 in
theorem copyMI_any {C : Nat → Prop} {t : Tm} {v : Value} {w : World} (h : TM w C t v) (hn : t.wt ≤ 1048576) :
    Calls Tryd.prog 39 #[v] w (NewM t w) := by
  obtain ⟨tp, tc, rp, rc, p, c, rfl, hS⟩ := h
  obtain ⟨w0, hw0, hs0, hb0, r0, r1⟩ := box_new2 w (tmC t tp tc rp rc p c) #[.int .i64 0, .string ⟨#[]⟩, .string ⟨#[]⟩, .int .i64 0, .int .i64 0, .slice none 0 0, .int .i64 0, .slice none 0 0, .slice none 0 0] 35 35
  have HC := Lib.hid (growM_any (hS.stays (.of_below hb0)) hn)
  have HW := Lib.hid (And.intro hs0 (And.intro hb0 r1))
  have HWW := Lib.hid hw0
  clear hS hs0 hb0 r0 r1 hw0
  go_enter Tryd.func39, Tryd.ntmps39
  go_wp2_with fail
  rw [HWW.out]
  refine HC.out.mono ?_
  rintro e w1 ⟨v1, rfl, ⟨tp1, tc1, rp1, rc1, p1, c1, rfl, ho⟩, hb1⟩
  obtain ⟨hs0, hb0, r1⟩ := HW.out
  have r1' := (hb1.block _ (by omega)).trans r1
  obtain ⟨q0, q1, q2, q3, q4, q5, q6, q7, q8⟩ : w1.cell? ⟨w.heap.size + 1, 0, none⟩ = some (.int .i64 0) ∧ w1.cell? ⟨w.heap.size + 1, 1, none⟩ = some (.string ⟨#[]⟩) ∧ w1.cell? ⟨w.heap.size + 1, 2, none⟩ = some (.string ⟨#[]⟩) ∧ w1.cell? ⟨w.heap.size + 1, 3, none⟩ = some (.int .i64 0) ∧ w1.cell? ⟨w.heap.size + 1, 4, none⟩ = some (.int .i64 0) ∧ w1.cell? ⟨w.heap.size + 1, 5, none⟩ = some (.slice none 0 0) ∧ w1.cell? ⟨w.heap.size + 1, 6, none⟩ = some (.int .i64 0) ∧ w1.cell? ⟨w.heap.size + 1, 7, none⟩ = some (.slice none 0 0) ∧ w1.cell? ⟨w.heap.size + 1, 8, none⟩ = some (.slice none 0 0) := ⟨cell_of_blk r1' 0, cell_of_blk r1' 1, cell_of_blk r1' 2, cell_of_blk r1' 3, cell_of_blk r1' 4, cell_of_blk r1' 5, cell_of_blk r1' 6, cell_of_blk r1' 7, cell_of_blk r1' 8⟩
  have qz := unfrozen_of_blk r1'
  have HO := Lib.hid ho
  have HB := Lib.hid (hb0.trans (hb1.mono hb0.size))
  clear ho hb1 hs0 hb0 r1 r1'
  go_wp2_with fail
  refine bodyPost_ret (v := tmV t tp1 tc1 rp1 rc1 p1 c1) ?_ rfl ?_
  · rw [results_cell1 rfl]
    go_simp
  · have hs0 := HW.out.1
    have hst := setN_stays (tmL t tp1 tc1 rp1 rc1 p1 c1) (fun z => w0.heap.size ≤ z) w1 (w.heap.size + 1) 0 (by omega)
    have hbl := setN_below (tmL t tp1 tc1 rp1 rc1 p1 c1) w.heap.size w1 (w.heap.size + 1) 0 (by omega)
    have hsz := setN_size (tmL t tp1 tc1 rp1 rc1 p1 c1) w1 (w.heap.size + 1) 0
    simp only [tmL, setN, Nat.zero_add, Nat.reduceAdd] at hst hbl hsz
    exact ⟨_, rfl, ⟨tp1, tc1, rp1, rc1, p1, c1, rfl, (HO.out.stays (hst.mono (fun z hz => hz.1))).mono (fun z hz => ⟨by omega, by rw [hsz]; exact hz.2⟩)⟩, HB.out.trans hbl⟩
end Go.Proofs.YtingnigiijdllaaDoor
namespace Go.Proofs.YtingnigiijdllaaDoor
open Go Go.RowKit

variable {C : Nat → Prop} {t : Tm} {v : Value} {w : World}
set_option maxRecDepth 100000 in
set_option maxHeartbeats 2000000 in
theorem cpI_any (hka : KA w) (h : TM w C t v) (hn : t.wt ≤ 1048576) : Calls Tryd.prog 16 #[v] w (PairI (CpIs t) w) := by
  have HKA := Lib.hid (fun (w' : World) (hb : Below w.heap.size w w') => hka.below hb)
  clear hka
  have HN := Lib.hid hn
  obtain ⟨tp, tc, rp, rc, p, c, rfl, hT⟩ := h
  obtain ⟨wl, hwl, hsz, hbl, q0, q1⟩ := box_new2 w (tmC t tp tc rp rc p c) #[.int .i64 0, .string ⟨#[]⟩, .string ⟨#[]⟩, .int .i64 0, .int .i64 0, .slice none 0 0, .int .i64 0, .slice none 0 0, .slice none 0 0] 35 35
  have HT := Lib.hid hT
  have HWL := Lib.hid hwl
  have HSZ := Lib.hid hsz
  have HBL := Lib.hid hbl
  have HX := Lib.hid (fun (W : World) (hW : Below wl.heap.size wl W) => Bx9.of ((hW.block w.heap.size (by omega)).trans q0))
  have HY := Lib.hid (fun (W : World) (hW : Below wl.heap.size wl W) => show W.cell? ⟨w.heap.size + 1, 0, none⟩ = some (.int .i64 0) ∧ W.cell? ⟨w.heap.size + 1, 1, none⟩ = some (.string ⟨#[]⟩) ∧ W.cell? ⟨w.heap.size + 1, 2, none⟩ = some (.string ⟨#[]⟩) ∧ W.cell? ⟨w.heap.size + 1, 3, none⟩ = some (.int .i64 0) ∧ W.cell? ⟨w.heap.size + 1, 4, none⟩ = some (.int .i64 0) ∧ W.cell? ⟨w.heap.size + 1, 5, none⟩ = some (.slice none 0 0) ∧ W.cell? ⟨w.heap.size + 1, 6, none⟩ = some (.int .i64 0) ∧ W.cell? ⟨w.heap.size + 1, 7, none⟩ = some (.slice none 0 0) ∧ W.cell? ⟨w.heap.size + 1, 8, none⟩ = some (.slice none 0 0) ∧ ∀ i, W.frozen? ⟨w.heap.size + 1, i, none⟩ = false from by
    have h := (hW.block (w.heap.size + 1) (by omega)).trans q1
    exact ⟨cell_of_blk h 0, cell_of_blk h 1, cell_of_blk h 2, cell_of_blk h 3, cell_of_blk h 4, cell_of_blk h 5, cell_of_blk h 6, cell_of_blk h 7, cell_of_blk h 8, unfrozen_of_blk h⟩)
  clear hT hn hwl hsz hbl q0 q1
  go_enter Tryd.func16, Tryd.ntmps16
  go_upto_region 1 with fail
  rw [HWL.out]
  obtain ⟨g0, g1, g2, g3, g4, g5, g6, g7, g8⟩ := HX.out wl (Below.refl _ _)
  obtain ⟨y0, y1, y2, y3, y4, y5, y6, y7, y8, yz⟩ := HY.out wl (Below.refl _ _)
  by_cases hk : t.kind = 10
  · have t1 : (t.kind != 10) = false := by rw [hk]; rfl
    have HK := Lib.hid hk
    clear hk
    go_wp2_with fail
    refine (rslI_any (HKA.out _ HBL.out) ⟨_, _, _, _, _, _, rfl, HT.out.stays (.of_below HBL.out)⟩ (Nat.le_trans HN.out (by decide))).mono ?_
    rintro e w1 ⟨r, hr, rfl, hb1⟩
    have HR := Lib.hid hr
    have HB1 := Lib.hid hb1
    clear g0 g1 g2 g3 g4 g5 g6 g7 g8 y0 y1 y2 y3 y4 y5 y6 y7 y8 yz
    obtain ⟨g0, g1, g2, g3, g4, g5, g6, g7, g8⟩ := HX.out w1 hb1
    obtain ⟨y0, y1, y2, y3, y4, y5, y6, y7, y8, yz⟩ := HY.out w1 hb1
    clear hr hb1
    cases r with
    | false =>
      go_wp2_with fail
      refine bodyPost_ret (v := .tuple #[tmV noM none 0 none 0 none 0, .bool false]) ?_ rfl ?_
      · rw [results_ct rfl]
        go_simp
        all_goals (repeat' apply And.intro) <;> rfl
      · exact pair_noneI (HBL.out.trans (HB1.out.mono HBL.out.size)) (Or.inr ⟨fun h => (by have := HR.out.2 h.1; cases this), rfl, rfl⟩)
    | true =>
      obtain ⟨x, hx⟩ := List.length_eq_one_iff.1 (isT_one ((isT_node t).1 (HR.out.1 rfl).1).1 (Or.inl HK.out))
      obtain ⟨b, o, tp2, tc2, rp2, rc2, p2, c2, rfl, hC, hb, h9, hP⟩ := tm_part HT.out.args 0 (by rw [hx]; simp)
      have hx0 : t.args[0]'(by rw [hx]; simp) = x := by simp [hx]
      rw [hx0] at h9 hP
      simp only [Nat.zero_mul, Nat.add_zero] at h9
      have hl1 : t.args.length = 1 := by rw [hx]; rfl
      have hwx : x.wt ≤ 1048576 := by have h1 := t.wt_eq; rw [hx] at h1; simp only [wtS] at h1; have := HN.out; omega
      have HCP := Lib.hid (show CpIs t x true from Or.inl ⟨HR.out.1 rfl, HK.out, hx, rfl⟩)
      obtain ⟨a0, a1, a2, a3, a4, a5, a6, a7, a8⟩ := h9 w1 (.of_below (HBL.out.trans (HB1.out.mono HBL.out.size)))
      have hP1 := hP.stays (.of_below (HBL.out.trans (HB1.out.mono HBL.out.size)))
      have l8 := g8
      rw [hl1] at l8
      have HCC := Lib.hid (copyMI_any (v := tmV x tp2 tc2 rp2 rc2 p2 c2) (⟨_, _, _, _, _, _, rfl, hP1⟩ : TM w1 C x _) hwx)
      clear g8 hx hx0 hl1 hC hb h9 hP hP1
      go_wp2_with fail
      refine HCC.out.mono ?_
      rintro e w2 ⟨v2, rfl, ⟨tp3, tc3, rp3, rc3, p3, c3, rfl, hN⟩, hb2⟩
      have HN2 := Lib.hid hN
      have HB2 := Lib.hid (HB1.out.trans (hb2.mono HB1.out.size))
      have HL := Lib.hid HB1.out.size
      clear g0 g1 g2 g3 g4 g5 g6 g7 y0 y1 y2 y3 y4 y5 y6 y7 y8 yz
      obtain ⟨y0, y1, y2, y3, y4, y5, y6, y7, y8, yz⟩ := HY.out w2 HB2.out
      clear hN hb2 a0 a1 a2 a3 a4 a5 a6 a7 a8 l8
      go_wp2_with fail
      refine bodyPost_ret (v := .tuple #[tmV x tp3 tc3 rp3 rc3 p3 c3, .bool true]) ?_ rfl ?_
      · rw [results_ct rfl]
        go_simp
        all_goals (repeat' apply And.intro) <;> rfl
      · exact pair_yesI (HBL.out.trans (HB2.out.mono HBL.out.size)) HN2.out (fun z hz => by have h1 := HL.out; have h2 := HSZ.out; (try dsimp only at hz); omega) HCP.out
  · have t1 : (t.kind != 10) = true := by simp [hk]
    have HK := Lib.hid hk
    clear hk
    go_wp2_with fail
    refine bodyPost_ret (v := .tuple #[tmV noM none 0 none 0 none 0, .bool false]) ?_ rfl ?_
    · rw [results_ct rfl]
      go_simp
      all_goals (repeat' apply And.intro) <;> rfl
    · exact pair_noneI HBL.out (Or.inr ⟨fun h => HK.out h.2, rfl, rfl⟩)
set_option maxRecDepth 100000 in
set_option maxHeartbeats 2000000 in
theorem lfI_any (hka : KA w) (h : TM w C t v) (hn : t.wt ≤ 1048576) : Calls Tryd.prog 20 #[v] w (PairI (LfIs t) w) := by
  have HKA := Lib.hid (fun (w' : World) (hb : Below w.heap.size w w') => hka.below hb)
  clear hka
  have HN := Lib.hid hn
  obtain ⟨tp, tc, rp, rc, p, c, rfl, hT⟩ := h
  obtain ⟨wl, hwl, hsz, hbl, q0, q1⟩ := box_new2 w (tmC t tp tc rp rc p c) #[.int .i64 0, .string ⟨#[]⟩, .string ⟨#[]⟩, .int .i64 0, .int .i64 0, .slice none 0 0, .int .i64 0, .slice none 0 0, .slice none 0 0] 35 35
  have HT := Lib.hid hT
  have HWL := Lib.hid hwl
  have HSZ := Lib.hid hsz
  have HBL := Lib.hid hbl
  have HX := Lib.hid (fun (W : World) (hW : Below wl.heap.size wl W) => Bx9.of ((hW.block w.heap.size (by omega)).trans q0))
  have HY := Lib.hid (fun (W : World) (hW : Below wl.heap.size wl W) => show W.cell? ⟨w.heap.size + 1, 0, none⟩ = some (.int .i64 0) ∧ W.cell? ⟨w.heap.size + 1, 1, none⟩ = some (.string ⟨#[]⟩) ∧ W.cell? ⟨w.heap.size + 1, 2, none⟩ = some (.string ⟨#[]⟩) ∧ W.cell? ⟨w.heap.size + 1, 3, none⟩ = some (.int .i64 0) ∧ W.cell? ⟨w.heap.size + 1, 4, none⟩ = some (.int .i64 0) ∧ W.cell? ⟨w.heap.size + 1, 5, none⟩ = some (.slice none 0 0) ∧ W.cell? ⟨w.heap.size + 1, 6, none⟩ = some (.int .i64 0) ∧ W.cell? ⟨w.heap.size + 1, 7, none⟩ = some (.slice none 0 0) ∧ W.cell? ⟨w.heap.size + 1, 8, none⟩ = some (.slice none 0 0) ∧ ∀ i, W.frozen? ⟨w.heap.size + 1, i, none⟩ = false from by
    have h := (hW.block (w.heap.size + 1) (by omega)).trans q1
    exact ⟨cell_of_blk h 0, cell_of_blk h 1, cell_of_blk h 2, cell_of_blk h 3, cell_of_blk h 4, cell_of_blk h 5, cell_of_blk h 6, cell_of_blk h 7, cell_of_blk h 8, unfrozen_of_blk h⟩)
  clear hT hn hwl hsz hbl q0 q1
  go_enter Tryd.func20, Tryd.ntmps20
  go_upto_region 1 with fail
  rw [HWL.out]
  obtain ⟨g0, g1, g2, g3, g4, g5, g6, g7, g8⟩ := HX.out wl (Below.refl _ _)
  obtain ⟨y0, y1, y2, y3, y4, y5, y6, y7, y8, yz⟩ := HY.out wl (Below.refl _ _)
  by_cases hk : t.kind = 2 ∨ t.kind = 3
  · have HK := Lib.hid hk
    rcases hk with hk | hk
    all_goals
      first
        | (have t3 : (t.kind != 2) = false := by rw [hk]; rfl)
        | (have t3 : (t.kind != 2) = true := by rw [hk]; rfl
           have t4 : (t.kind != 3) = false := by rw [hk]; rfl)
      clear hk
      go_wp2_with fail
      refine (isTermI_any (HKA.out _ HBL.out) ⟨_, _, _, _, _, _, rfl, HT.out.stays (.of_below HBL.out)⟩ (Nat.le_trans HN.out (by decide))).mono ?_
      rintro e w1 ⟨r, hr, rfl, hb1⟩
      have HR := Lib.hid hr
      have HB1 := Lib.hid hb1
      clear g0 g1 g2 g3 g4 g5 g6 g7 g8 y0 y1 y2 y3 y4 y5 y6 y7 y8 yz
      obtain ⟨g0, g1, g2, g3, g4, g5, g6, g7, g8⟩ := HX.out w1 hb1
      obtain ⟨y0, y1, y2, y3, y4, y5, y6, y7, y8, yz⟩ := HY.out w1 hb1
      clear hr hb1
      cases r with
      | false =>
        go_wp2_with fail
        refine bodyPost_ret (v := .tuple #[tmV noM none 0 none 0 none 0, .bool false]) ?_ rfl ?_
        · rw [results_ct rfl]
          go_simp
          all_goals (repeat' apply And.intro) <;> rfl
        · exact pair_noneI (HBL.out.trans (HB1.out.mono HBL.out.size)) (Or.inr ⟨fun h => (by have := HR.out.2 h.1; cases this), rfl, rfl⟩)
      | true =>
        go_wp2_with fail
        refine (copyMI_any (v := tmV t tp tc rp rc p c) (⟨_, _, _, _, _, _, rfl, HT.out.stays (.of_below (HBL.out.trans (HB1.out.mono HBL.out.size)))⟩ : TM w1 C t _) HN.out).mono ?_
        rintro e w2 ⟨v2, rfl, ⟨tp3, tc3, rp3, rc3, p3, c3, rfl, hN⟩, hb2⟩
        obtain ⟨wr, hwr, hszr, hbr, qr⟩ := box_new w2 (tmC t tp3 tc3 rp3 rc3 p3 c3) 35
        have HQ := Lib.hid (quote_os qr (hN.keep hbr) (fun h => by have := h.2; omega))
        have HB2 := Lib.hid (HB1.out.trans ((hb2.trans (hbr.mono hb2.size)).mono HB1.out.size))
        have HL := Lib.hid (And.intro HB1.out.size (And.intro hb2.size hszr))
        have HWR := Lib.hid hwr
        clear g0 g1 g2 g3 g4 g5 g6 g7 g8 y0 y1 y2 y3 y4 y5 y6 y7 y8 yz
        obtain ⟨y0, y1, y2, y3, y4, y5, y6, y7, y8, yz⟩ := HY.out wr HB2.out
        rw [← hwr] at y0 y1 y2 y3 y4 y5 y6 y7 y8 yz
        clear hN hb2 hbr qr hwr hszr
        go_wp2_with fail
        refine bodyPost_ret (v := .tuple #[tmV (quoteM t) none 0 none 0 (some ⟨w2.heap.size, 0, none⟩) 1, .bool true]) ?_ rfl ?_
        · rw [results_ct rfl]
          go_simp
          all_goals (repeat' apply And.intro) <;> rfl
        · rw [HWR.out]
          exact pair_yesI (HBL.out.trans (HB2.out.mono HBL.out.size)) HQ.out (fun z hz => by obtain ⟨h1, h3, h4⟩ := HL.out; have h2 := HSZ.out; (try dsimp only at hz); omega) (Or.inl ⟨HR.out.1 (by trivial), HK.out, rfl, rfl⟩)
  · have t1 : (t.kind != 2) = true := by simp; exact fun h => hk (Or.inl h)
    have t2 : (t.kind != 3) = true := by simp; exact fun h => hk (Or.inr h)
    have HK := Lib.hid hk
    clear hk
    go_wp2_with fail
    refine bodyPost_ret (v := .tuple #[tmV noM none 0 none 0 none 0, .bool false]) ?_ rfl ?_
    · rw [results_ct rfl]
      go_simp
      all_goals (repeat' apply And.intro) <;> rfl
    · exact pair_noneI HBL.out (Or.inr ⟨fun h => HK.out h.2, rfl, rfl⟩)
end Go.Proofs.YtingnigiijdllaaDoor
