/-
  Several texts of the proof in one (each says below what it holds): LvJ OpArI FormA IsNameI NodesT SizesT WithinT ValidT.
-/
import Derived.Test.YtfeijijeohfpgaaDoorLq5
import Derived.Test.YtfeijijeohfpgaaDoorLq3
import Derived.Test.YtfeijijeohfpgaaDoorLq4
import Derived.Test.YtfeijijeohfpgaaDoorLq2
import Derived.Test.YtfeijijeohfpgaaDoorLq1
import Derived.Deep.RegionHeld3
import Derived.RangeFuncNested
import Derived.RangeFuncBound
import Derived.RangeFuncCalls
import Derived.Shelf.Abstract
import Derived.IntWalk
import Derived.Shelf.RegionOpen
import Derived.WalkKit
import Derived.TacticsInMore
import Derived.LoopNIn
import Derived.LoopIn
import Derived.Sort.LoopGhostIn
import Derived.Lib.SmallJoins
set_option linter.unusedVariables false
set_option linter.unusedSimpArgs false
namespace Go.Proofs.YtfeijijeohfpgaaDoor
open Go Go.RowKit Go.Shelf
attribute [local go_sem] Oper.semAt_some

set_option maxRecDepth 100000 in
theorem noP_any (b0 o0 : Nat) (w : World) : Calls Tryd.prog 60 #[.pointer (some ⟨b0, o0, none⟩), .func (.func 61) #[] #[]] w fun e w' =>
    ∃ Bt Bp, e = .returned (iterP Bt Bp) ∧ IterP w' b0 o0 Bt Bp ∧ Below w.heap.size w w' ∧ w.heap.size ≤ Bt ∧ w.heap.size ≤ Bp := by
  go_enter Tryd.func60, Tryd.ntmps60
  go_wp2
  obtain ⟨wl, hwl, hsz, hbl, k1, k2⟩ := box_new2 w #[.pointer (some ⟨b0, o0, none⟩)] #[.func (.func 61) #[] #[]] 54 68
  rw [hwl]
  go_ret
  exact ⟨_, _, rfl, ⟨k1, k2⟩, hbl, by omega, by omega⟩
set_option maxRecDepth 100000 in
set_option maxHeartbeats 4000000 in
theorem levels_it (l Bn Be : Nat) (t : Tm) (b0 o0 : Nat) (n : Int) (C E B0 : Nat → Prop) (W : World) (J Jx : List (Tm × Int) → (Nat → Prop) → (Nat → Prop) → World → Prop)
    (hBn : W.heap[Bn]? = some (.cells #[.int .i64 n] 3 (0, 0))) (hBe : W.heap[Be]? = some (.cells #[.pointer (some ⟨b0, o0, none⟩)] 54 (0, 0))) (hT : TermAt W C t b0 o0) (hn : t.wt ≤ 2097152) (hE : ∀ z, E z → z < W.heap.size)
    (hC : ∀ b, C b → b < W.heap.size) (hCB : ∀ b, C b → ¬ B0 b) (hB0 : ∀ b, B0 b → b < W.heap.size)
    (hJ : ∀ pre B N A A', J pre B N A → Keep W.heap.size (fun z => B z ∨ N z) A A' → J pre B N A') (hJx : ∀ pre B N A A', Jx pre B N A → Keep W.heap.size (fun z => B z ∨ N z) A A' → Jx pre B N A')
    (hY : ∀ (pre : List (Tm × Int)) (x : (Tm × Int) × (Nat × Nat)) (Y B N : Nat → Prop) (W1 : World), J pre B N W1 → pre ++ [keyL x] <+: walkL t n → GoodL C x Y W1 → (∀ z : Nat, Y z → ¬ B z) → YieldAt Fence.wide 1 Tryd.prog l (encL x) W1 fun e W' =>
      ∃ B' N', Grew B B' W1.heap.size W'.heap.size ∧ (∀ z, N' z → N z ∨ Y z) ∧ ((e = .returned (.bool true) ∧ J (pre ++ [keyL x]) B' N' W' ∧ Holds B W1 W') ∨ (e = .returned (.bool false) ∧ Jx (pre ++ [keyL x]) B' N' W' ∧ Holds (fun z => B z ∨ E z) W1 W')))
    (h0 : J [] B0 (fun _ => False) W) :
    CallsIn Fence.wide 2 Tryd.prog 59 #[.func (.yield l) #[] #[], .pointer (some ⟨Bn, 0, none⟩), .pointer (some ⟨Be, 0, none⟩)] W fun e W' =>
      (∃ v, e = .returned v) ∧ ((∃ B' N', J (walkL t n) B' N' W') ∨ ∃ pre B' N', pre <+: walkL t n ∧ Jx pre B' N' W') := by
  have HT := Lib.hid hT
  have HY := Lib.hid hY
  have HJ := Lib.hid hJ
  have HJX := Lib.hid hJx
  have HJ0 := Lib.hid h0
  have HB0 := Lib.hid hB0
  have HC := Lib.hid hC
  have HCB := Lib.hid hCB
  have HN := Lib.hid hn
  have HEE := Lib.hid hE
  have hnt : t.nodes ≤ 2097153 := by have := t.nodes_wt; omega
  have HNT := Lib.hid hnt
  have q0 := cell_of_blk hBn 0
  simp only [List.getElem?_toArray, List.getElem?_cons_zero] at q0
  have qe0 := cell_of_blk hBe 0
  simp only [List.getElem?_toArray, List.getElem?_cons_zero] at qe0
  have HBE := Lib.hid hBe
  clear hT hY hJ hJx h0 hB0 hC hCB hn hBn hBe hE hnt
  refine callsIn_of_wp_marks Tryd.func59 rfl trivial ?_ rfl
  simp only [Tryd.ntmps59, List.size_toArray, List.length_cons, List.length_nil, Nat.reduceAdd, Nat.reduceSub, Array.replicate_succ, Array.replicate_zero, List.push_toArray, List.append_toArray, List.nil_append, List.cons_append]
  refine wpIn_wide.2 ?_
  have hbn := World.block_lt_of_cell? W _ q0
  have hbe := (Array.getElem?_eq_some_iff.1 HBE.out).1
  have hb1 : Below W.heap.size W (W.alloc (.cells #[.func (.yield l) #[] #[]] 55)) := al_below _ _
  have q1 := (hb1.cell hbn).trans q0
  have hb3 : Below W.heap.size W (((W.alloc (.cells #[.func (.yield l) #[] #[]] 55)).alloc (.cells #[.int .i64 n] 3)).alloc (.cells #[.slice (some ⟨W.heap.size + 1, 0, none⟩) 1 1] 66)) := (hb1.alloc (by simp) _).alloc (by simp; omega) _
  have e0 := (hb3.cell hbe).trans qe0
  have HB3 := Lib.hid hb3
  clear hb1 hb3 q0 qe0
  go_wp2_with fail
  obtain ⟨w0, hw0, hs0, hb0, k0, k1, k2⟩ := box_new3 W #[.func (.yield l) #[] #[]] #[.int .i64 n] #[.slice (some ⟨W.heap.size + 1, 0, none⟩) 1 1] 55 3 66
  rw [hw0]
  refine (noP_any b0 o0 w0).mono ?_
  rintro e wc ⟨Bt, Bp, rfl, hit, hbc, hBt, hBp⟩
  have sc := hbc.size
  have hbW : Below W.heap.size W wc := hb0.trans (hbc.mono hb0.size)
  have k0c := (hbc.block _ (by omega)).trans k0
  have k1c := (hbc.block _ (by omega)).trans k1
  have k2c := (hbc.block _ (by omega)).trans k2
  have HIT := Lib.hid hit
  have HBW := Lib.hid hbW
  have HK := Lib.hid (And.intro k0c (And.intro k1c k2c))
  clear hw0 hit hbc k0 k1 k2 k0c k1c k2c hb0 hbW q1 e0 hbn hbe HB3 HBE
  go_wp2_with fail
  refine (wpIn_wide (n := 2)).1 ?_
  refine rangeE_law (E := E) (F := Fence.wide) (n := 2) rfl (by omega) (gf := 84) (lb := #[.pointer (some ⟨Bt, 0, none⟩), .pointer (some ⟨Bp, 0, none⟩)]) rfl trivial (enters_of Tryd.func84 (by kernel_rfl) rfl)
    (B0 := fun z => (z = W.heap.size + 2 ∨ z = W.heap.size + 1) ∨ B0 z)
    (nodesP_seq (C := fun z => C z ∨ z = Bp) (Ct := C) E HIT.out (HT.out.stays (.of_below HBW.out)) HN.out (Below.refl _ _) (fun b hb => ?hC) (Or.inr rfl) (fun z hz => Or.inl hz)) (fun z hz => Nat.lt_of_lt_of_le (HEE.out z hz) HBW.out.size) (fun _ => rfl) (fun b hb => ?hCB) (fun b hb => ?hC2) (fun b hb => ?hB0)
    (fun pre B N Wx => ∃ (Bo No : Nat → Prop) (g cap : Nat), LvI wc.heap.size (fun z => C z ∨ z = Bp) W l (W.heap.size + 2) n J pre B N Wx Bo No g cap)
    (fun c pre B N Wx => c = .ret ∧ ∃ (Bo No : Nat → Prop) (q : List (Tm × Int)), q <+: walkL t n ∧ (∀ z, Bo z → B z) ∧ (∀ z, ¬ No z) ∧ Jx q Bo No Wx)
    ?hI ?hIx ?hG (fun pre B N A h z hz => by obtain ⟨Bo, No, g, cap, h⟩ := h; exact (h.lt z hz).1) (fun x Y A z hg hz => absurd hz (hg.2 z)) ?h0
    (fun x s a' Wx => a' = { tmps := #[.func (.yield l) #[] #[], .pointer (some ⟨Bn, 0, none⟩), .pointer (some ⟨Be, 0, none⟩), .pointer (some ⟨W.heap.size, 0, none⟩), .pointer (some ⟨W.heap.size + 2, 0, none⟩), .pointer (some ⟨x.2.1, x.2.2, none⟩), .int .i64 (x.1.2 : Nat), undef, .int .i64 n, .slice (some ⟨W.heap.size + 1, 0, none⟩) 1 1, .pointer (some ⟨b0, o0, none⟩), iterP Bt Bp, .pointer (some ⟨x.2.1, x.2.2, none⟩), .int .i64 (x.1.2 : Nat), undef, undef, undef, undef, undef, undef, undef, undef, undef, undef, undef, undef, undef, undef, undef, undef, undef, undef, undef, undef], defers := [] })
    ?hAx ?assign ?body ?done ?stop
  case hC =>
    rcases hb with hb | rfl
    · exact Nat.lt_of_lt_of_le (HC.out b hb) HBW.out.size
    · exact (Array.getElem?_eq_some_iff.1 HIT.out.bp).1
  case hC2 =>
    rcases hb with hb | rfl
    · exact Nat.lt_of_lt_of_le (HC.out b hb) HBW.out.size
    · exact (Array.getElem?_eq_some_iff.1 HIT.out.bp).1
  case hCB =>
    rintro ((rfl | rfl) | h)
    · rcases hb with hb | hb
      · have := HC.out _ hb; omega
      · omega
    · rcases hb with hb | hb
      · have := HC.out _ hb; omega
      · omega
    · rcases hb with hb | hb
      · exact HCB.out b hb h
      · have := HB0.out b h; omega
  case hB0 =>
    rcases hb with (rfl | rfl) | h
    · omega
    · omega
    · have := HB0.out b h; omega
  case hI =>
    rintro pre B N A A' ⟨Bo, No, g, cap, h⟩ hk
    exact ⟨Bo, No, g, cap, h.keep (by omega) HJ.out hk⟩
  case hIx =>
    rintro c pre B N A A' ⟨e, Bo, No, q, h1, h2, h3, h4⟩ hk
    exact ⟨e, Bo, No, q, h1, h2, h3, HJX.out _ _ _ _ _ h4 (hk.mono (by omega) (fun b hb => hb.elim (fun h => Or.inl (h2 b h)) (fun h => absurd h (h3 b))))⟩
  case hG =>
    intro x Y A A' l' r hl hg hr hA
    exact goodP_loop hg hA (fun h => by have h1 := HC.out _ h; have h2 := HBW.out.size; omega)
  case h0 =>
    obtain ⟨k0, k1, k2⟩ := HK.out
    refine ⟨B0, fun _ => False, W.heap.size + 1, 1, fun _ => Iff.rfl, ⟨fun h => ?_, fun h => ?_, by omega, by omega, by omega⟩, fun z hz => ?_, fun z hz => hz, fun z hz => hz, k2, ?_, HJ.out _ _ _ _ _ HJ0.out (.of_below (Nat.le_refl _) HBW.out), k0, Nat.le_refl _, ⟨fun h => ?_, fun h => ?_⟩, fun z hz hc => ?_⟩
    · have := HB0.out _ h; omega
    · have := HB0.out _ h; omega
    · rcases hz with (rfl | rfl) | h
      · omega
      · omega
      · have := HB0.out z h; omega
    · exact ⟨rfl, Or.inr ⟨W.heap.size + 1, 1, _, rfl, Nat.le_refl _, k1, Nat.le_refl _, by unfold maxLen; omega, rfl, rfl⟩⟩
    · rcases h with h | h
      · have := HC.out _ h; omega
      · omega
    · rcases h with h | h
      · have := HC.out _ h; omega
      · omega
    · rcases hc with hc | hc
      · exact HCB.out z hc hz
      · have := HB0.out z hz; omega
  case hAx =>
    rintro x s a' Wx l' r o e hl
    exact e
  case assign =>
    rintro l' ⟨⟨xt, d⟩, ⟨b1, o1⟩⟩ Y Wx K hg hK
    have HK := Lib.hid hK
    clear hK
    gi_wp2
    exact HK.out _ _ (Below.refl _ Wx) (by simp)
  case done =>
    rintro D B N Wx hD hne ⟨Bo, No, g, cap, hI⟩ hK
    gi_wp2
    refine ⟨by simp, .inl ⟨_, _, rfl, run_takeDeferred hK, ?_⟩⟩
    refine ⟨_, results_none rfl _ _ _, ⟨_, rfl⟩, .inl ⟨Bo, No, ?_⟩⟩
    rw [← lvs_all]
    exact HJ.out _ _ _ _ _ hI.j ⟨below_putObj _ _ _ _ (by omega), fun z hz _ => World.putObj_heap_other (hz.elim (fun h => hne z (Or.inl ((hI.split z).2 (Or.inr h)))) (fun h => absurd h (hI.no z)))⟩
  case stop =>
    rintro D c pre B N Wx hD hne hpre ⟨rfl, Bo, No, q, h1, h2, h3, h4⟩ hK
    gi_wp2
    refine ⟨by simp, .inl ⟨_, _, rfl, run_takeDeferred hK, ?_⟩⟩
    refine ⟨_, results_none rfl _ _ _, ⟨_, rfl⟩, .inr ⟨q, Bo, No, h1, ?_⟩⟩
    exact HJX.out _ _ _ _ _ h4 ⟨below_putObj _ _ _ _ (by omega), fun z hz _ => World.putObj_heap_other (hz.elim (fun h => hne z (Or.inl (h2 z h))) (fun h => absurd h (h3 z)))⟩
  case body =>
    rintro l' pre ⟨⟨xt, d⟩, ⟨b1, o1⟩⟩ s a' Y B N Wx ⟨Bo, No, g, cap, hI⟩ hpre hg hYB hs rfl ⟨r, hl⟩ hBl
    have hpre : pre ++ [(xt, d)] <+: walkM t 1 := hpre
    have hGC : TermAt Wx C xt b1 o1 := hg.1
    have hGC' := hGC
    obtain ⟨tp', tc', rp', rc', p', c', hC1, hb1l, h9, hG'⟩ := hGC'
    have hok : 1 ≤ d ∧ d ≤ (stkL [n] pre).length := okL_pre (l := n) hpre
    have hdm : d ≤ 2097153 := depth_pre (t := t) (x := xt) (d := d) (hpre.subset (by simp)) HNT.out
    obtain ⟨d0, rfl⟩ : ∃ d0, d = d0 + 1 := ⟨d - 1, by omega⟩
    obtain ⟨st, hst⟩ : ∃ st, st = stkL [n] pre := ⟨_, rfl⟩
    have hcell := hI.cell
    have hown := hI.own
    have hlvp := lvs_pre (l := n) hpre
    rw [lvs_snoc] at hlvp
    rw [← hst] at hcell hown hok hlvp
    rw [Nat.add_sub_cancel] at hlvp
    obtain ⟨lv, hlv⟩ : ∃ lv, lv = st.getD d0 0 := ⟨_, rfl⟩
    rw [← hlv] at hlvp
    obtain ⟨hcap1, hcap2, hg1, hg2⟩ := row_cap hown
    have f0 := cell_of_blk hcell 0
    simp only [List.getElem?_toArray, List.getElem?_cons_zero] at f0
    have f1 : Wx.cell? ⟨g, d0, none⟩ = some (.int .i64 lv) := by
      rw [hown.cellAt d0 (by omega), hlv]
      have hlt : d0 < st.length := by omega
      simp [lvV, List.getD_eq_getElem?_getD, List.getElem?_eq_getElem hlt]
    have yb0 := cell_of_blk hI.yb 0
    simp only [List.getElem?_toArray, List.getElem?_cons_zero] at yb0
    have hnb1 : ¬ B b1 := fun h => hI.notC b1 h (Or.inl hC1)
    obtain ⟨fn, tmps, assign, body, hy, hR⟩ := YieldAt.any' (b := 0) (HY.out (lvs pre [n]) ((xt, lv), (b1, o1)) (fun _ => False) Bo No Wx hI.j hlvp ⟨hGC, fun z hz => hz⟩ (fun _ h => h.elim)) l'
    have HI := Lib.hid hI
    have HPRE := Lib.hid hpre
    have HLVP := Lib.hid hlvp
    have HOWN := Lib.hid hown
    have HST := Lib.hid hst
    have HLV := Lib.hid hlv
    have HR := Lib.hid hR
    have HG9 := Lib.hid (show b1 < Wx.heap.size ∧ ¬ B b1 ∧ At9 Wx b1 o1 xt tp' tc' rp' rc' p' c' from ⟨hb1l, hnb1, h9⟩)
    have HCELL := Lib.hid hcell
    have HD := Lib.hid hok
    have i0' : (0 : Int) ≤ (d0 : Int) := Int.natCast_nonneg _
    have i1' : (d0 : Int) < (st.length : Int) := by omega
    have hdm' : d0 + 1 ≤ 2097153 := hdm
    unfold maxLen at hcap2
    clear hI hpre hlvp hown hst hlv hR hcell hok hdm hg hYB hs hl hBl hG' hGC hC1 hb1l h9 hnb1
    simp only [encL] at hy
    rw [show ((d0 + 1 : Nat) : Int) = (d0 : Int) + 1 from rfl]
    gi_wp2_with fail
    refine ⟨rfl, ?_⟩
    refine HR.out.mono ?_
    rintro e W3 ⟨Bo', No', hgr, hno, ⟨rfl, hJ3, hH3⟩ | ⟨rfl, hJx3, hH3⟩⟩
    · have hI := HI.out
      have hk3 : ∀ z, ¬ Bo z → z < Wx.heap.size → W3.heap[z]? = Wx.heap[z]? := fun z h1 h2 => hH3.2 z h2 h1
      have hlbc := (hI.lt _ ((hI.split _).2 (Or.inl (Or.inl rfl)))).1
      have hcell3 := (hk3 _ hI.apart.1 hlbc).trans HCELL.out
      have hown3 := row_of_block HOWN.out (hk3 g hI.apart.2.1 hg2)
      have hb53 : At9 W3 b1 o1 xt tp' tc' rp' rc' p' c' := HG9.out.2.2.keep (hk3 b1 (fun h => HG9.out.2.1 ((hI.split b1).2 (Or.inr h))) HG9.out.1)
      have f0' := cell_of_blk hcell3 0
      have fz := unfrozen_of_blk hcell3 0
      simp only [List.getElem?_toArray, List.getElem?_cons_zero] at f0'
      obtain ⟨y0, y1, y2, y3, y4, y5, y6, y7, y8⟩ := hb53
      have HG := Lib.hid (And.intro hgr (And.intro hno (And.intro hJ3 hH3)))
      have HOWN3 := Lib.hid hown3
      obtain ⟨i0, hi, hz0, hz1, hz2⟩ := info_parts infoI64
      have HLB := Lib.hid (show W.heap.size + 2 < W3.drew.heap.size from Nat.lt_of_lt_of_le hlbc hH3.1)
      have HGB := Lib.hid (show ¬ g = W.heap.size + 2 from hI.apart.2.2.1)
      have HCX := Lib.hid (show ∀ z, (C z ∨ z = Bp) → z < wc.heap.size from fun z hz => hz.elim (fun h => Nat.lt_of_lt_of_le (HC.out z h) HBW.out.size) (fun h => h ▸ (Array.getElem?_eq_some_iff.1 HIT.out.bp).1))
      have HCELL3 := Lib.hid hcell3
      have HTAKE := Lib.hid (row_take hown3 (m := d0 + 1) (by omega))
      have hfn : ∀ k, Fence.wide.fn k := fun _ => trivial
      have hfo : Tryd.prog.follows .mixedOrders = true := by kernel_rfl
      clear hI hk3 hcell3 hown3 hgr hno hJ3 hH3 hy f0 f1 yb0
      gi_wp2_with fail
      refine wpIn_region_round hfo (by kernel_rfl) ?_
      refine wpAnyIn_take (i := 1) (v := ?_) rfl rfl (by kernel_rfl) (by kernel_rfl) (by kernel_rfl) (fun _ _ _ h => h) ⟨Or.inl ⟨by rfl, ?_⟩, fun _ => rfl⟩ ?_
      rotate_left
      · intro w
        go_simp
        first
          | with_reducible rfl
          | (rw [if_pos ⟨by omega, by omega⟩]; done)
      refine wpAnyIn_take (i := 3) (v := ?_) rfl rfl (by kernel_rfl) (by kernel_rfl) (by kernel_rfl) (fun _ _ _ h => h) ⟨Or.inl ⟨by rfl, ?_⟩, fun _ => rfl⟩ ?_
      rotate_left
      · intro w
        go_simp
        first
          | with_reducible rfl
          | (rw [if_pos ⟨by omega, by omega⟩]; done)
      refine wpAnyIn_take (i := 4) (v := ?_) rfl rfl (by kernel_rfl) (by kernel_rfl) (by kernel_rfl) (fun _ _ _ h => h) ⟨Or.inl ⟨by rfl, ?_⟩, fun _ => rfl⟩ ?_
      rotate_left
      · intro w
        go_simp
        first
          | with_reducible rfl
          | (rw [if_pos ⟨by omega, by omega⟩]; done)
      refine wpAnyIn_take (i := 6) (v := ?_) rfl rfl (by kernel_rfl) (by kernel_rfl) (by kernel_rfl) (fun _ _ _ h => h) ⟨Or.inl ⟨by rfl, ?_⟩, fun _ => rfl⟩ ?_
      rotate_left
      · intro w
        go_simp
        first
          | with_reducible rfl
          | (rw [if_pos ⟨by omega, by omega⟩]; done)
      refine wpAnyIn_ready (rs := [0, 5]) (by kernel_rfl) (by simp) ?_
      refine AllReadyIn.cons rfl (fun K hK => ?_) ?_
      · go_simp
        refine hK _ _ ?_
        clear hK K
        refine wpAnyIn_take (i := 2) (v := ?_) rfl rfl (by kernel_rfl) (by kernel_rfl) (by kernel_rfl) (fun _ _ _ h => h) ⟨Or.inl ⟨by rfl, ?_⟩, fun _ => rfl⟩ ?_
        rotate_left
        · intro w
          go_simp
          first
            | with_reducible rfl
            | (rw [if_pos ⟨by omega, by omega⟩]; done)
        refine wpAnyIn_ready (rs := [5]) (by kernel_rfl) (by simp) ?_
        refine AllReadyIn.cons rfl (fun K hK => ?_) AllReadyIn.nil
        go_simp
        refine hK _ _ ?_
        clear hK K
        refine wpAnyIn_ready (rs := [7]) (by kernel_rfl) (by simp) ?_
        refine AllReadyIn.cons rfl (fun K hK => ?_) AllReadyIn.nil
        go_simp
        refine ⟨rfl, ?_⟩
        refine (callsIn_wide.2 (nextI_any xt tp' tc' rp' rc' p' c' lv _)).mono ?_
        rintro e w1 ⟨rfl, hb1⟩
        refine hK _ _ ?_
        clear hK K
        have hcw := (hb1.block _ HLB.out).trans HCELL3.out
        have f2 := cell_of_blk hcw 0
        have f3 := cell_of_blk (((al_below w1 (.cells #[.int .i64 (nextL xt.kind lv)] 3)).block _ (Nat.lt_of_lt_of_le HLB.out hb1.size)).trans hcw) 0
        simp only [List.getElem?_toArray, List.getElem?_cons_zero] at f2 f3
        clear hcw
        refine wpAnyIn_ready (rs := [8]) (by kernel_rfl) (by simp) ?_
        refine AllReadyIn.cons rfl (fun K hK => ?_) AllReadyIn.nil
        go_simp
        refine hK _ _ ?_
        clear hK K
        refine wpAnyIn_ready (rs := [9]) (by kernel_rfl) (by simp) ?_
        refine AllReadyIn.cons rfl (fun K hK => ?_) AllReadyIn.nil
        refine stepIn_app1 (w0 := w1) (base := W.heap.size + 1) (v := .slice (some ⟨g, 0, none⟩) (d0 + 1) cap) (n := d0 + 1) (xs := (lvV st).take ((d0 + 1) * 1)) (cs := [.int .i64 (nextL xt.kind lv)]) rfl (.tmp 26) (.tmp 32) rfl Tryd.underlying66 hi hz0 hz1 hz2 rfl (by decide) rfl (row_below HTAKE.out ((Below.refl W3.heap.size W3).drew.trans hb1)) _ rfl (by simp) rfl (fun u hu => by simp at hu; subst hu; rfl) (by unfold maxLen; omega) (by omega) (by have h1 := hb1.size; have h2 := HLB.out; omega) ?_
        intro w' g2 cap2 hA
        have hcw := ((hA.kept (W.heap.size + 2) (Nat.lt_of_lt_of_le HLB.out hb1.size) (by simp only [Value.ownBlock, ne_eq, Option.some.injEq]; exact HGB.out)).1.trans (hb1.block _ HLB.out)).trans HCELL3.out
        have f4 := cell_of_blk hcw 0
        have z4 := unfrozen_of_blk hcw 0
        simp only [List.getElem?_toArray, List.getElem?_cons_zero] at f4
        clear hcw
        refine hK _ _ ?_
        clear hK K
        refine wpAnyIn_ready (rs := [10]) (by kernel_rfl) (by simp) ?_
        refine AllReadyIn.cons rfl (fun K hK => ?_) AllReadyIn.nil
        go_simp
        refine hK _ _ ?_
        clear hK K
        refine wpAnyIn_done (by kernel_rfl) ?_ _
        gi_wp2_with fail
        exact LvI.step HI.out (by omega) HCX.out HST.out HD.out.2 HLV.out HJ.out HG.out.1 HG.out.2.2.2 HG.out.2.1 HG.out.2.2.1 ((Below.refl W3.heap.size W3).drew.trans hb1) hA
      refine AllReadyIn.cons rfl (fun K hK => ?_) AllReadyIn.nil
      go_simp
      refine hK _ _ ?_
      clear hK K
      refine wpAnyIn_ready (rs := [0, 7]) (by kernel_rfl) (by simp) ?_
      refine AllReadyIn.cons rfl (fun K hK => ?_) ?_
      · go_simp
        refine hK _ _ ?_
        clear hK K
        refine wpAnyIn_take (i := 2) (v := ?_) rfl rfl (by kernel_rfl) (by kernel_rfl) (by kernel_rfl) (fun _ _ _ h => h) ⟨Or.inl ⟨by rfl, ?_⟩, fun _ => rfl⟩ ?_
        rotate_left
        · intro w
          go_simp
          first
            | with_reducible rfl
            | (rw [if_pos ⟨by omega, by omega⟩]; done)
        refine wpAnyIn_ready (rs := [7]) (by kernel_rfl) (by simp) ?_
        refine AllReadyIn.cons rfl (fun K hK => ?_) AllReadyIn.nil
        go_simp
        refine ⟨rfl, ?_⟩
        refine (callsIn_wide.2 (nextI_any xt tp' tc' rp' rc' p' c' lv _)).mono ?_
        rintro e w1 ⟨rfl, hb1⟩
        refine hK _ _ ?_
        clear hK K
        have hcw := (hb1.block _ HLB.out).trans HCELL3.out
        have f2 := cell_of_blk hcw 0
        have f3 := cell_of_blk (((al_below w1 (.cells #[.int .i64 (nextL xt.kind lv)] 3)).block _ (Nat.lt_of_lt_of_le HLB.out hb1.size)).trans hcw) 0
        simp only [List.getElem?_toArray, List.getElem?_cons_zero] at f2 f3
        clear hcw
        refine wpAnyIn_ready (rs := [8]) (by kernel_rfl) (by simp) ?_
        refine AllReadyIn.cons rfl (fun K hK => ?_) AllReadyIn.nil
        go_simp
        refine hK _ _ ?_
        clear hK K
        refine wpAnyIn_ready (rs := [9]) (by kernel_rfl) (by simp) ?_
        refine AllReadyIn.cons rfl (fun K hK => ?_) AllReadyIn.nil
        refine stepIn_app1 (w0 := w1) (base := W.heap.size + 1) (v := .slice (some ⟨g, 0, none⟩) (d0 + 1) cap) (n := d0 + 1) (xs := (lvV st).take ((d0 + 1) * 1)) (cs := [.int .i64 (nextL xt.kind lv)]) rfl (.tmp 26) (.tmp 32) rfl Tryd.underlying66 hi hz0 hz1 hz2 rfl (by decide) rfl (row_below HTAKE.out ((Below.refl W3.heap.size W3).drew.trans hb1)) _ rfl (by simp) rfl (fun u hu => by simp at hu; subst hu; rfl) (by unfold maxLen; omega) (by omega) (by have h1 := hb1.size; have h2 := HLB.out; omega) ?_
        intro w' g2 cap2 hA
        have hcw := ((hA.kept (W.heap.size + 2) (Nat.lt_of_lt_of_le HLB.out hb1.size) (by simp only [Value.ownBlock, ne_eq, Option.some.injEq]; exact HGB.out)).1.trans (hb1.block _ HLB.out)).trans HCELL3.out
        have f4 := cell_of_blk hcw 0
        have z4 := unfrozen_of_blk hcw 0
        simp only [List.getElem?_toArray, List.getElem?_cons_zero] at f4
        clear hcw
        refine hK _ _ ?_
        clear hK K
        refine wpAnyIn_ready (rs := [10]) (by kernel_rfl) (by simp) ?_
        refine AllReadyIn.cons rfl (fun K hK => ?_) AllReadyIn.nil
        go_simp
        refine hK _ _ ?_
        clear hK K
        refine wpAnyIn_done (by kernel_rfl) ?_ _
        gi_wp2_with fail
        exact LvI.step HI.out (by omega) HCX.out HST.out HD.out.2 HLV.out HJ.out HG.out.1 HG.out.2.2.2 HG.out.2.1 HG.out.2.2.1 ((Below.refl W3.heap.size W3).drew.trans hb1) hA
      refine AllReadyIn.cons rfl (fun K hK => ?_) AllReadyIn.nil
      go_simp
      refine ⟨rfl, ?_⟩
      refine (callsIn_wide.2 (nextI_any xt tp' tc' rp' rc' p' c' lv _)).mono ?_
      rintro e w1 ⟨rfl, hb1⟩
      refine hK _ _ ?_
      clear hK K
      have hcw := (hb1.block _ HLB.out).trans HCELL3.out
      have f2 := cell_of_blk hcw 0
      have f3 := cell_of_blk (((al_below w1 (.cells #[.int .i64 (nextL xt.kind lv)] 3)).block _ (Nat.lt_of_lt_of_le HLB.out hb1.size)).trans hcw) 0
      simp only [List.getElem?_toArray, List.getElem?_cons_zero] at f2 f3
      clear hcw
      refine wpAnyIn_ready (rs := [0, 8]) (by kernel_rfl) (by simp) ?_
      refine AllReadyIn.cons rfl (fun K hK => ?_) ?_
      · go_simp
        refine hK _ _ ?_
        clear hK K
        refine wpAnyIn_take (i := 2) (v := ?_) rfl rfl (by kernel_rfl) (by kernel_rfl) (by kernel_rfl) (fun _ _ _ h => h) ⟨Or.inl ⟨by rfl, ?_⟩, fun _ => rfl⟩ ?_
        rotate_left
        · intro w
          go_simp
          first
            | with_reducible rfl
            | (rw [if_pos ⟨by omega, by omega⟩]; done)
        refine wpAnyIn_ready (rs := [8]) (by kernel_rfl) (by simp) ?_
        refine AllReadyIn.cons rfl (fun K hK => ?_) AllReadyIn.nil
        go_simp
        refine hK _ _ ?_
        clear hK K
        refine wpAnyIn_ready (rs := [9]) (by kernel_rfl) (by simp) ?_
        refine AllReadyIn.cons rfl (fun K hK => ?_) AllReadyIn.nil
        refine stepIn_app1 (w0 := w1) (base := W.heap.size + 1) (v := .slice (some ⟨g, 0, none⟩) (d0 + 1) cap) (n := d0 + 1) (xs := (lvV st).take ((d0 + 1) * 1)) (cs := [.int .i64 (nextL xt.kind lv)]) rfl (.tmp 26) (.tmp 32) rfl Tryd.underlying66 hi hz0 hz1 hz2 rfl (by decide) rfl (row_below HTAKE.out ((Below.refl W3.heap.size W3).drew.trans hb1)) _ rfl (by simp) rfl (fun u hu => by simp at hu; subst hu; rfl) (by unfold maxLen; omega) (by omega) (by have h1 := hb1.size; have h2 := HLB.out; omega) ?_
        intro w' g2 cap2 hA
        have hcw := ((hA.kept (W.heap.size + 2) (Nat.lt_of_lt_of_le HLB.out hb1.size) (by simp only [Value.ownBlock, ne_eq, Option.some.injEq]; exact HGB.out)).1.trans (hb1.block _ HLB.out)).trans HCELL3.out
        have f4 := cell_of_blk hcw 0
        have z4 := unfrozen_of_blk hcw 0
        simp only [List.getElem?_toArray, List.getElem?_cons_zero] at f4
        clear hcw
        refine hK _ _ ?_
        clear hK K
        refine wpAnyIn_ready (rs := [10]) (by kernel_rfl) (by simp) ?_
        refine AllReadyIn.cons rfl (fun K hK => ?_) AllReadyIn.nil
        go_simp
        refine hK _ _ ?_
        clear hK K
        refine wpAnyIn_done (by kernel_rfl) ?_ _
        gi_wp2_with fail
        exact LvI.step HI.out (by omega) HCX.out HST.out HD.out.2 HLV.out HJ.out HG.out.1 HG.out.2.2.2 HG.out.2.1 HG.out.2.2.1 ((Below.refl W3.heap.size W3).drew.trans hb1) hA
      refine AllReadyIn.cons rfl (fun K hK => ?_) AllReadyIn.nil
      go_simp
      refine hK _ _ ?_
      clear hK K
      refine wpAnyIn_ready (rs := [0]) (by kernel_rfl) (by simp) ?_
      refine AllReadyIn.cons rfl (fun K hK => ?_) AllReadyIn.nil
      go_simp
      refine hK _ _ ?_
      clear hK K
      refine wpAnyIn_take (i := 2) (v := ?_) rfl rfl (by kernel_rfl) (by kernel_rfl) (by kernel_rfl) (fun _ _ _ h => h) ⟨Or.inl ⟨by rfl, ?_⟩, fun _ => rfl⟩ ?_
      rotate_left
      · intro w
        go_simp
        first
          | with_reducible rfl
          | (rw [if_pos ⟨by omega, by omega⟩]; done)
      refine wpAnyIn_ready (rs := [9]) (by kernel_rfl) (by simp) ?_
      refine AllReadyIn.cons rfl (fun K hK => ?_) AllReadyIn.nil
      refine stepIn_app1 (w0 := w1) (base := W.heap.size + 1) (v := .slice (some ⟨g, 0, none⟩) (d0 + 1) cap) (n := d0 + 1) (xs := (lvV st).take ((d0 + 1) * 1)) (cs := [.int .i64 (nextL xt.kind lv)]) rfl (.tmp 26) (.tmp 32) rfl Tryd.underlying66 hi hz0 hz1 hz2 rfl (by decide) rfl (row_below HTAKE.out ((Below.refl W3.heap.size W3).drew.trans hb1)) _ rfl (by simp) rfl (fun u hu => by simp at hu; subst hu; rfl) (by unfold maxLen; omega) (by omega) (by have h1 := hb1.size; have h2 := HLB.out; omega) ?_
      intro w' g2 cap2 hA
      have hcw := ((hA.kept (W.heap.size + 2) (Nat.lt_of_lt_of_le HLB.out hb1.size) (by simp only [Value.ownBlock, ne_eq, Option.some.injEq]; exact HGB.out)).1.trans (hb1.block _ HLB.out)).trans HCELL3.out
      have f4 := cell_of_blk hcw 0
      have z4 := unfrozen_of_blk hcw 0
      simp only [List.getElem?_toArray, List.getElem?_cons_zero] at f4
      clear hcw
      refine hK _ _ ?_
      clear hK K
      refine wpAnyIn_ready (rs := [10]) (by kernel_rfl) (by simp) ?_
      refine AllReadyIn.cons rfl (fun K hK => ?_) AllReadyIn.nil
      go_simp
      refine hK _ _ ?_
      clear hK K
      refine wpAnyIn_done (by kernel_rfl) ?_ _
      gi_wp2_with fail
      exact LvI.step HI.out (by omega) HCX.out HST.out HD.out.2 HLV.out HJ.out HG.out.1 HG.out.2.2.2 HG.out.2.1 HG.out.2.2.1 ((Below.refl W3.heap.size W3).drew.trans hb1) hA
    · gi_wp2_with fail
      exact LvI.stop HI.out hgr hH3 hno HLVP.out hJx3
end Go.Proofs.YtfeijijeohfpgaaDoor
namespace Go.Proofs.YtfeijijeohfpgaaDoor
open Go Go.RowKit

set_option maxRecDepth 100000 in
set_option maxHeartbeats 1000000 in
theorem opArI_any (s : ByteArray) (w : World) : Calls Tryd.prog 86 #[.string s] w fun e w' => e = .returned (.int .i64 (opAr s.toList)) ∧ w' = w := by
  go_enter Tryd.func86, Tryd.ntmps86
  go_wp2
  all_goals
    go_ret
    exact ⟨by unfold opAr; simp_all, rfl⟩
end Go.Proofs.YtfeijijeohfpgaaDoor
namespace Go.Proofs.YtfeijijeohfpgaaDoor
open Go Go.RowKit

set_option maxRecDepth 100000 in
set_option maxHeartbeats 1000000 in
theorem zeroI_any (k : Int) (p : Option Addr) (n c : Nat) (w : World) : Calls Tryd.prog 70 #[.agg #[.int .i64 k, .slice p n c]] w (Tells (k = 0 ∧ n = 0) w) := by
  have HB := Lib.hid (al_below w (.cells #[.int .i64 k, .slice p n c] 32))
  go_enter Tryd.func70, Tryd.ntmps70
  by_cases hk : k = 0
  · subst hk
    go_wp2_with fail
    go_ret
    exact ⟨_, by simp, rfl, HB.out⟩
  · have hk1 : (k == 0) = false := by simpa using hk
    go_wp2_with fail
    go_ret
    exact ⟨_, by simp [hk], rfl, HB.out⟩

theorem arK_out (x : Int) {k : Int} (h : k < 1 ∨ 13 < k) : arK k x = -1 := by
  unfold arK
  rw [if_neg (by omega), if_neg (by omega), if_neg (by omega), if_neg (by omega), if_neg (by omega), if_neg (by omega), if_neg (by omega), if_neg (by omega), if_neg (by omega), if_neg (by omega), if_neg (by omega), if_neg (by omega), if_neg (by omega)]
def Tm.arOk (t : Tm) : Prop := (t.args.length : Int) = t.arity ∧ (t.kind = 4 → 0 < t.args.length)

set_option maxRecDepth 100000 in
set_option maxHeartbeats 4000000 in
theorem hasAr_any (t : Tm) (tp : Option Addr) (tc : Nat) (rp : Option Addr) (rc : Nat) (p : Option Addr) (c : Nat) (w : World) (hka : KA w) (hn : t.wt ≤ 2097152) :
    Calls Tryd.prog 66 #[tmV t tp tc rp rc p c] w (Tells t.arOk w) := by
  have HB := Lib.hid (fun o => al_below w o)
  have HK := Lib.hid (fun o i => (hka.below (al_below w o)).cell i)
  have hl : t.args.length ≤ 2097152 := by have h1 := t.wt_eq; have h2 := wtS_ge t.args; omega
  clear hka hn
  unfold tmV
  by_cases hr : t.kind < 1 ∨ 13 < t.kind
  · have HN := Lib.hid (show ¬ t.arOk from fun e => by
      have h1 := e.1
      rw [Tm.arity, arK_out _ hr] at h1
      omega)
    rcases hr with hr | hr
    all_goals
      go_enter Tryd.func66, Tryd.ntmps66
      go_wp2_with fail
      go_ret
      exact ⟨_, lit_f HN.out, rfl, HB.out _⟩
  by_cases h4 : t.kind = 4
  · have HO := Lib.hid (opArI_any t.name)
    by_cases hz : 0 < t.args.length
    · have HA := Lib.hid (show (((t.args.length : Int) == opAr t.name.toList) = true ↔ t.arOk) by simp [Tm.arOk, Tm.arity, arK, h4, hz])
      have hd1 : decide (0 < t.args.length) = true := decide_eq_true hz
      rw [h4]
      clear hz hr h4
      go_enter Tryd.func66, Tryd.ntmps66
      go_wp2_with fail
      go_region_held3 (fun w' => w'.cell? ⟨w.heap.size, 1, none⟩ = some (.string t.name) ∧ w'.cell? ⟨w.heap.size, 8, none⟩ = some (.slice p t.args.length c) ∧ Below w.heap.size w w')
        (first
          | (go_keep; done)
          | exact ⟨cell_of_blk (blk_new w _) 1, cell_of_blk (blk_new w _) 8, (HB.out _).drew⟩
          | assumption)
        (first
          | (go_at_call 86; refine (HO.out _).mono ?_; rintro e w5 ⟨rfl, rfl⟩))
      rename_i hH
      have HBL := Lib.hid hH.2.2
      clear hH
      go_wp2_with fail
      go_ret
      exact ⟨_, HA.out, rfl, HBL.out⟩
    · have HA := Lib.hid (show ¬ t.arOk from fun e => hz (e.2 h4))
      rw [h4, show t.args.length = 0 by omega]
      clear hz hr h4 hl HO
      go_enter Tryd.func66, Tryd.ntmps66
      go_wp2_with fail
      refine wp_region_noPanic ?_
      refine wp_region_held_drew (S := (fun w' => w'.cell? ⟨w.heap.size, 1, none⟩ = some (.string t.name) ∧ w'.cell? ⟨w.heap.size, 8, none⟩ = some (.slice p 0 c) ∧ Below w.heap.size w w')) (by kernel_rfl) ?_ (fun hHeld => ?_)
      · try dsimp only
        exact ⟨cell_of_blk (blk_new w _) 1, cell_of_blk (blk_new w _) 8, (HB.out _).drew⟩
      refine wpAnyH_take (i := 0) (oi := ({ dst := some 16, op := Op.fieldAddr 35 (Operand.tmp 1) 6, type := 0, pos := "l05_term.go:117", after := #[], guard := none } : Oper)) (v := ?_) rfl (by kernel_rfl) (by kernel_rfl) (by kernel_rfl) (fun _ _ _ h => h) (Or.inl ⟨by rfl, ?_⟩) (by assumption) ?_
      rotate_left
      · intro w hSw
        try dsimp only at hSw
        go_simp
        try with_reducible rfl
      try simp only [Act.put, List.setIfInBounds_toArray, List.set_cons_zero, List.set_cons_succ]
      refine wpAnyH_take (i := 1) (oi := ({ dst := some 17, op := Op.load 33 (Operand.tmp 16), type := 33, pos := "l05_term.go:117", after := #[{ on := 0, ground := Ground.data }], guard := none } : Oper)) (v := ?_) rfl (by kernel_rfl) (by kernel_rfl) (by kernel_rfl) (fun _ _ _ h => h) (Or.inl ⟨by rfl, ?_⟩) (by assumption) ?_
      rotate_left
      · intro w hSw
        try dsimp only at hSw
        go_simp
        try with_reducible rfl
      try simp only [Act.put, List.setIfInBounds_toArray, List.set_cons_zero, List.set_cons_succ]
      refine wpAnyH_take (i := 2) (oi := ({ dst := some 18, op := Op.call { callee := Callee.builtin Builtin.len, args := #[Operand.tmp 17], argTypes := #[33] }, type := 3, pos := "l05_term.go:117", after := #[{ on := 1, ground := Ground.data }], guard := none } : Oper)) (v := ?_) rfl (by kernel_rfl) (by kernel_rfl) (by kernel_rfl) (fun _ _ _ h => h) (Or.inl ⟨by rfl, ?_⟩) (by assumption) ?_
      rotate_left
      · intro w hSw
        try dsimp only at hSw
        go_simp
        try with_reducible rfl
      try simp only [Act.put, List.setIfInBounds_toArray, List.set_cons_zero, List.set_cons_succ]
      refine wpAnyH_take (i := 3) (oi := ({ dst := some 19, op := Op.binOp BinOp.gtr 3 (Operand.tmp 18) (Operand.const (Value.int IntKind.i64 0)) 3, type := 4, pos := "l05_term.go:117", after := #[{ on := 2, ground := Ground.data }], guard := none } : Oper)) (v := ?_) rfl (by kernel_rfl) (by kernel_rfl) (by kernel_rfl) (fun _ _ _ h => h) (Or.inl ⟨by rfl, ?_⟩) (by assumption) ?_
      rotate_left
      · intro w hSw
        try dsimp only at hSw
        go_simp
        try with_reducible rfl
      try simp only [Act.put, List.setIfInBounds_toArray, List.set_cons_zero, List.set_cons_succ]
      refine wpAnyH_take (i := 4) (oi := ({ dst := some 20, op := Op.move (Operand.tmp 19), type := 4, pos := "l05_term.go:117", after := #[{ on := 3, ground := Ground.data }], guard := none } : Oper)) (v := ?_) rfl (by kernel_rfl) (by kernel_rfl) (by kernel_rfl) (fun _ _ _ h => h) (Or.inl ⟨by rfl, ?_⟩) (by assumption) ?_
      rotate_left
      · intro w hSw
        try dsimp only at hSw
        go_simp
        try with_reducible rfl
      try simp only [Act.put, List.setIfInBounds_toArray, List.set_cons_zero, List.set_cons_succ]
      refine wpAnyH_take (i := 5) (oi := ({ dst := some 21, op := Op.fieldAddr 35 (Operand.tmp 1) 6, type := 0, pos := "l05_term.go:117", after := #[{ on := 4, ground := Ground.guard }], guard := some (4, true) } : Oper)) (v := undef) rfl (by kernel_rfl) (by kernel_rfl) (by kernel_rfl) (fun _ _ _ h => h) (Or.inr ⟨by rfl, rfl⟩) (by assumption) ?_
      try simp only [Act.put, List.setIfInBounds_toArray, List.set_cons_zero, List.set_cons_succ]
      refine wpAnyH_take (i := 6) (oi := ({ dst := some 22, op := Op.load 33 (Operand.tmp 21), type := 33, pos := "l05_term.go:117", after := #[{ on := 5, ground := Ground.data }, { on := 4, ground := Ground.guard }], guard := some (4, true) } : Oper)) (v := undef) rfl (by kernel_rfl) (by kernel_rfl) (by kernel_rfl) (fun _ _ _ h => h) (Or.inr ⟨by rfl, rfl⟩) (by assumption) ?_
      try simp only [Act.put, List.setIfInBounds_toArray, List.set_cons_zero, List.set_cons_succ]
      refine wpAnyH_take (i := 7) (oi := ({ dst := some 23, op := Op.call { callee := Callee.builtin Builtin.len, args := #[Operand.tmp 22], argTypes := #[33] }, type := 3, pos := "l05_term.go:117", after := #[{ on := 6, ground := Ground.data }, { on := 4, ground := Ground.guard }], guard := some (4, true) } : Oper)) (v := undef) rfl (by kernel_rfl) (by kernel_rfl) (by kernel_rfl) (fun _ _ _ h => h) (Or.inr ⟨by rfl, rfl⟩) (by assumption) ?_
      try simp only [Act.put, List.setIfInBounds_toArray, List.set_cons_zero, List.set_cons_succ]
      refine wpAnyH_take (i := 8) (oi := ({ dst := some 24, op := Op.fieldAddr 35 (Operand.tmp 1) 1, type := 0, pos := "l05_term.go:117", after := #[{ on := 4, ground := Ground.guard }], guard := some (4, true) } : Oper)) (v := undef) rfl (by kernel_rfl) (by kernel_rfl) (by kernel_rfl) (fun _ _ _ h => h) (Or.inr ⟨by rfl, rfl⟩) (by assumption) ?_
      try simp only [Act.put, List.setIfInBounds_toArray, List.set_cons_zero, List.set_cons_succ]
      refine wpAnyH_take (i := 9) (oi := ({ dst := some 25, op := Op.load 9 (Operand.tmp 24), type := 9, pos := "l05_term.go:117", after := #[{ on := 8, ground := Ground.data }, { on := 4, ground := Ground.guard }], guard := some (4, true) } : Oper)) (v := undef) rfl (by kernel_rfl) (by kernel_rfl) (by kernel_rfl) (fun _ _ _ h => h) (Or.inr ⟨by rfl, rfl⟩) (by assumption) ?_
      try simp only [Act.put, List.setIfInBounds_toArray, List.set_cons_zero, List.set_cons_succ]
      refine wpAnyH_take (i := 10) (oi := ({ dst := some 26, op := Op.call { callee := Callee.value (Operand.func 86), args := #[Operand.tmp 25], argTypes := #[9] }, type := 3, pos := "l05_term.go:117", after := #[{ on := 9, ground := Ground.data }, { on := 4, ground := Ground.chain }, { on := 4, ground := Ground.guard }], guard := some (4, true) } : Oper)) (v := undef) rfl (by kernel_rfl) (by kernel_rfl) (by kernel_rfl) (fun _ _ _ h => h) (Or.inr ⟨by rfl, rfl⟩) (by assumption) ?_
      try simp only [Act.put, List.setIfInBounds_toArray, List.set_cons_zero, List.set_cons_succ]
      refine wpAnyH_take (i := 11) (oi := ({ dst := some 27, op := Op.binOp BinOp.eql 3 (Operand.tmp 23) (Operand.tmp 26) 3, type := 4, pos := "l05_term.go:117", after := #[{ on := 7, ground := Ground.data }, { on := 10, ground := Ground.data }, { on := 4, ground := Ground.guard }], guard := some (4, true) } : Oper)) (v := undef) rfl (by kernel_rfl) (by kernel_rfl) (by kernel_rfl) (fun _ _ _ h => h) (Or.inr ⟨by rfl, rfl⟩) (by assumption) ?_
      try simp only [Act.put, List.setIfInBounds_toArray, List.set_cons_zero, List.set_cons_succ]
      refine wpAnyH_take (i := 12) (oi := ({ dst := some 28, op := Op.pick (Operand.tmp 20) (Operand.tmp 27) (Operand.const (Value.bool false)), type := 4, pos := "l05_term.go:117", after := #[{ on := 4, ground := Ground.data }, { on := 11, ground := Ground.data }], guard := none } : Oper)) (v := ?_) rfl (by kernel_rfl) (by kernel_rfl) (by kernel_rfl) (fun _ _ _ h => h) (Or.inl ⟨by rfl, ?_⟩) (by assumption) ?_
      rotate_left
      · intro w hSw
        try dsimp only at hSw
        go_simp
        try with_reducible rfl
      try simp only [Act.put, List.setIfInBounds_toArray, List.set_cons_zero, List.set_cons_succ]
      refine wpAnyH_take (i := 13) (oi := ({ dst := some 2, op := Op.assign (Operand.tmp 28), type := 4, pos := "l05_term.go:117", after := #[{ on := 12, ground := Ground.data }, { on := 10, ground := Ground.chain }, { on := 0, ground := Ground.phase }, { on := 1, ground := Ground.phase }, { on := 2, ground := Ground.phase }, { on := 3, ground := Ground.phase }, { on := 4, ground := Ground.phase }, { on := 5, ground := Ground.phase }, { on := 6, ground := Ground.phase }, { on := 7, ground := Ground.phase }, { on := 8, ground := Ground.phase }, { on := 9, ground := Ground.phase }, { on := 10, ground := Ground.phase }, { on := 11, ground := Ground.phase }, { on := 12, ground := Ground.phase }], guard := none } : Oper)) (v := ?_) rfl (by kernel_rfl) (by kernel_rfl) (by kernel_rfl) (fun _ _ _ h => h) (Or.inl ⟨by rfl, ?_⟩) (by assumption) ?_
      rotate_left
      · intro w hSw
        try dsimp only at hSw
        go_simp
        try with_reducible rfl
      try simp only [Act.put, List.setIfInBounds_toArray, List.set_cons_zero, List.set_cons_succ]
      refine wpAnyH_done (by kernel_rfl) ?_ _
      refine NoPanic.normal ?_
      clear hHeld
      go_wp2_with fail
      go_ret
      exact ⟨_, lit_f HA.out, rfl, (HB.out _).drew⟩
  rcases (show t.kind = 1 ∨ t.kind = 2 ∨ t.kind = 3 ∨ t.kind = 5 ∨ t.kind = 6 ∨ t.kind = 7 ∨ t.kind = 8 ∨ t.kind = 9 ∨ t.kind = 10 ∨ t.kind = 11 ∨ t.kind = 12 ∨ t.kind = 13 by omega) with hk | hk | hk | hk | hk | hk | hk | hk | hk | hk | hk | hk
  · have HA := Lib.hid (show (((t.args.length : Int) == 0) = true ↔ t.arOk) by simp [Tm.arOk, Tm.arity, arK, hk])
    have hc : (w.alloc (.cells #[.int .i64 1, .string t.name, .string t.other, .int .i64 t.n, .int .i64 t.ty.kind, .slice tp t.ty.args.length tc, .int .i64 t.res.kind, .slice rp t.res.args.length rc, .slice p t.args.length c] 35)).cell? ⟨1, 1, none⟩ = some (.int .i64 0) := by rw [HK.out _ 1]; rfl
    rw [hk]
    clear h4 hr hk hl
    go_enter Tryd.func66, Tryd.ntmps66
    go_wp2_with fail
    go_region_held3 (fun w' => w'.cell? ⟨w.heap.size, 0, none⟩ = some (.int .i64 1) ∧ w'.cell? ⟨w.heap.size, 8, none⟩ = some (.slice p t.args.length c) ∧ w'.cell? ⟨1, 1, none⟩ = some (.int .i64 0) ∧ Below w.heap.size w w')
      (first
        | (go_keep; done)
        | exact ⟨cell_of_blk (blk_new w _) 0, cell_of_blk (blk_new w _) 8, hc, (HB.out _).drew⟩)
      (first
        | fail)
    rename_i hH
    have HBL := Lib.hid hH.2.2.2
    clear hH hc
    go_wp2_with fail
    go_ret
    exact ⟨_, HA.out, rfl, HBL.out⟩
  · have HA := Lib.hid (show (((t.args.length : Int) == 0) = true ↔ t.arOk) by simp [Tm.arOk, Tm.arity, arK, hk])
    have hc : (w.alloc (.cells #[.int .i64 2, .string t.name, .string t.other, .int .i64 t.n, .int .i64 t.ty.kind, .slice tp t.ty.args.length tc, .int .i64 t.res.kind, .slice rp t.res.args.length rc, .slice p t.args.length c] 35)).cell? ⟨1, 2, none⟩ = some (.int .i64 0) := by rw [HK.out _ 2]; rfl
    rw [hk]
    clear h4 hr hk hl
    go_enter Tryd.func66, Tryd.ntmps66
    go_wp2_with fail
    go_region_held3 (fun w' => w'.cell? ⟨w.heap.size, 0, none⟩ = some (.int .i64 2) ∧ w'.cell? ⟨w.heap.size, 8, none⟩ = some (.slice p t.args.length c) ∧ w'.cell? ⟨1, 2, none⟩ = some (.int .i64 0) ∧ Below w.heap.size w w')
      (first
        | (go_keep; done)
        | exact ⟨cell_of_blk (blk_new w _) 0, cell_of_blk (blk_new w _) 8, hc, (HB.out _).drew⟩)
      (first
        | fail)
    rename_i hH
    have HBL := Lib.hid hH.2.2.2
    clear hH hc
    go_wp2_with fail
    go_ret
    exact ⟨_, HA.out, rfl, HBL.out⟩
  · have HA := Lib.hid (show (((t.args.length : Int) == 0) = true ↔ t.arOk) by simp [Tm.arOk, Tm.arity, arK, hk])
    have hc : (w.alloc (.cells #[.int .i64 3, .string t.name, .string t.other, .int .i64 t.n, .int .i64 t.ty.kind, .slice tp t.ty.args.length tc, .int .i64 t.res.kind, .slice rp t.res.args.length rc, .slice p t.args.length c] 35)).cell? ⟨1, 3, none⟩ = some (.int .i64 0) := by rw [HK.out _ 3]; rfl
    rw [hk]
    clear h4 hr hk hl
    go_enter Tryd.func66, Tryd.ntmps66
    go_wp2_with fail
    go_region_held3 (fun w' => w'.cell? ⟨w.heap.size, 0, none⟩ = some (.int .i64 3) ∧ w'.cell? ⟨w.heap.size, 8, none⟩ = some (.slice p t.args.length c) ∧ w'.cell? ⟨1, 3, none⟩ = some (.int .i64 0) ∧ Below w.heap.size w w')
      (first
        | (go_keep; done)
        | exact ⟨cell_of_blk (blk_new w _) 0, cell_of_blk (blk_new w _) 8, hc, (HB.out _).drew⟩)
      (first
        | fail)
    rename_i hH
    have HBL := Lib.hid hH.2.2.2
    clear hH hc
    go_wp2_with fail
    go_ret
    exact ⟨_, HA.out, rfl, HBL.out⟩
  · have HA := Lib.hid (show (((t.args.length : Int) == 3) = true ↔ t.arOk) by simp [Tm.arOk, Tm.arity, arK, hk])
    have hc : (w.alloc (.cells #[.int .i64 5, .string t.name, .string t.other, .int .i64 t.n, .int .i64 t.ty.kind, .slice tp t.ty.args.length tc, .int .i64 t.res.kind, .slice rp t.res.args.length rc, .slice p t.args.length c] 35)).cell? ⟨1, 5, none⟩ = some (.int .i64 3) := by rw [HK.out _ 5]; rfl
    rw [hk]
    clear h4 hr hk hl
    go_enter Tryd.func66, Tryd.ntmps66
    go_wp2_with fail
    go_region_held3 (fun w' => w'.cell? ⟨w.heap.size, 0, none⟩ = some (.int .i64 5) ∧ w'.cell? ⟨w.heap.size, 8, none⟩ = some (.slice p t.args.length c) ∧ w'.cell? ⟨1, 5, none⟩ = some (.int .i64 3) ∧ Below w.heap.size w w')
      (first
        | (go_keep; done)
        | exact ⟨cell_of_blk (blk_new w _) 0, cell_of_blk (blk_new w _) 8, hc, (HB.out _).drew⟩)
      (first
        | fail)
    rename_i hH
    have HBL := Lib.hid hH.2.2.2
    clear hH hc
    go_wp2_with fail
    go_ret
    exact ⟨_, HA.out, rfl, HBL.out⟩
  · have HA := Lib.hid (show (((t.args.length : Int) == 1) = true ↔ t.arOk) by simp [Tm.arOk, Tm.arity, arK, hk])
    have hc : (w.alloc (.cells #[.int .i64 6, .string t.name, .string t.other, .int .i64 t.n, .int .i64 t.ty.kind, .slice tp t.ty.args.length tc, .int .i64 t.res.kind, .slice rp t.res.args.length rc, .slice p t.args.length c] 35)).cell? ⟨1, 6, none⟩ = some (.int .i64 1) := by rw [HK.out _ 6]; rfl
    rw [hk]
    clear h4 hr hk hl
    go_enter Tryd.func66, Tryd.ntmps66
    go_wp2_with fail
    go_region_held3 (fun w' => w'.cell? ⟨w.heap.size, 0, none⟩ = some (.int .i64 6) ∧ w'.cell? ⟨w.heap.size, 8, none⟩ = some (.slice p t.args.length c) ∧ w'.cell? ⟨1, 6, none⟩ = some (.int .i64 1) ∧ Below w.heap.size w w')
      (first
        | (go_keep; done)
        | exact ⟨cell_of_blk (blk_new w _) 0, cell_of_blk (blk_new w _) 8, hc, (HB.out _).drew⟩)
      (first
        | fail)
    rename_i hH
    have HBL := Lib.hid hH.2.2.2
    clear hH hc
    go_wp2_with fail
    go_ret
    exact ⟨_, HA.out, rfl, HBL.out⟩
  · have HA := Lib.hid (show (((t.args.length : Int) == 2) = true ↔ t.arOk) by simp [Tm.arOk, Tm.arity, arK, hk])
    have hc : (w.alloc (.cells #[.int .i64 7, .string t.name, .string t.other, .int .i64 t.n, .int .i64 t.ty.kind, .slice tp t.ty.args.length tc, .int .i64 t.res.kind, .slice rp t.res.args.length rc, .slice p t.args.length c] 35)).cell? ⟨1, 7, none⟩ = some (.int .i64 2) := by rw [HK.out _ 7]; rfl
    rw [hk]
    clear h4 hr hk hl
    go_enter Tryd.func66, Tryd.ntmps66
    go_wp2_with fail
    go_region_held3 (fun w' => w'.cell? ⟨w.heap.size, 0, none⟩ = some (.int .i64 7) ∧ w'.cell? ⟨w.heap.size, 8, none⟩ = some (.slice p t.args.length c) ∧ w'.cell? ⟨1, 7, none⟩ = some (.int .i64 2) ∧ Below w.heap.size w w')
      (first
        | (go_keep; done)
        | exact ⟨cell_of_blk (blk_new w _) 0, cell_of_blk (blk_new w _) 8, hc, (HB.out _).drew⟩)
      (first
        | fail)
    rename_i hH
    have HBL := Lib.hid hH.2.2.2
    clear hH hc
    go_wp2_with fail
    go_ret
    exact ⟨_, HA.out, rfl, HBL.out⟩
  · have HA := Lib.hid (show (((t.args.length : Int) == 2) = true ↔ t.arOk) by simp [Tm.arOk, Tm.arity, arK, hk])
    have hc : (w.alloc (.cells #[.int .i64 8, .string t.name, .string t.other, .int .i64 t.n, .int .i64 t.ty.kind, .slice tp t.ty.args.length tc, .int .i64 t.res.kind, .slice rp t.res.args.length rc, .slice p t.args.length c] 35)).cell? ⟨1, 8, none⟩ = some (.int .i64 2) := by rw [HK.out _ 8]; rfl
    rw [hk]
    clear h4 hr hk hl
    go_enter Tryd.func66, Tryd.ntmps66
    go_wp2_with fail
    go_region_held3 (fun w' => w'.cell? ⟨w.heap.size, 0, none⟩ = some (.int .i64 8) ∧ w'.cell? ⟨w.heap.size, 8, none⟩ = some (.slice p t.args.length c) ∧ w'.cell? ⟨1, 8, none⟩ = some (.int .i64 2) ∧ Below w.heap.size w w')
      (first
        | (go_keep; done)
        | exact ⟨cell_of_blk (blk_new w _) 0, cell_of_blk (blk_new w _) 8, hc, (HB.out _).drew⟩)
      (first
        | fail)
    rename_i hH
    have HBL := Lib.hid hH.2.2.2
    clear hH hc
    go_wp2_with fail
    go_ret
    exact ⟨_, HA.out, rfl, HBL.out⟩
  · have HA := Lib.hid (show (((t.args.length : Int) == 1) = true ↔ t.arOk) by simp [Tm.arOk, Tm.arity, arK, hk])
    have hc : (w.alloc (.cells #[.int .i64 9, .string t.name, .string t.other, .int .i64 t.n, .int .i64 t.ty.kind, .slice tp t.ty.args.length tc, .int .i64 t.res.kind, .slice rp t.res.args.length rc, .slice p t.args.length c] 35)).cell? ⟨1, 9, none⟩ = some (.int .i64 1) := by rw [HK.out _ 9]; rfl
    rw [hk]
    clear h4 hr hk hl
    go_enter Tryd.func66, Tryd.ntmps66
    go_wp2_with fail
    go_region_held3 (fun w' => w'.cell? ⟨w.heap.size, 0, none⟩ = some (.int .i64 9) ∧ w'.cell? ⟨w.heap.size, 8, none⟩ = some (.slice p t.args.length c) ∧ w'.cell? ⟨1, 9, none⟩ = some (.int .i64 1) ∧ Below w.heap.size w w')
      (first
        | (go_keep; done)
        | exact ⟨cell_of_blk (blk_new w _) 0, cell_of_blk (blk_new w _) 8, hc, (HB.out _).drew⟩)
      (first
        | fail)
    rename_i hH
    have HBL := Lib.hid hH.2.2.2
    clear hH hc
    go_wp2_with fail
    go_ret
    exact ⟨_, HA.out, rfl, HBL.out⟩
  · have HA := Lib.hid (show (((t.args.length : Int) == 1) = true ↔ t.arOk) by simp [Tm.arOk, Tm.arity, arK, hk])
    have hc : (w.alloc (.cells #[.int .i64 10, .string t.name, .string t.other, .int .i64 t.n, .int .i64 t.ty.kind, .slice tp t.ty.args.length tc, .int .i64 t.res.kind, .slice rp t.res.args.length rc, .slice p t.args.length c] 35)).cell? ⟨1, 10, none⟩ = some (.int .i64 1) := by rw [HK.out _ 10]; rfl
    rw [hk]
    clear h4 hr hk hl
    go_enter Tryd.func66, Tryd.ntmps66
    go_wp2_with fail
    go_region_held3 (fun w' => w'.cell? ⟨w.heap.size, 0, none⟩ = some (.int .i64 10) ∧ w'.cell? ⟨w.heap.size, 8, none⟩ = some (.slice p t.args.length c) ∧ w'.cell? ⟨1, 10, none⟩ = some (.int .i64 1) ∧ Below w.heap.size w w')
      (first
        | (go_keep; done)
        | exact ⟨cell_of_blk (blk_new w _) 0, cell_of_blk (blk_new w _) 8, hc, (HB.out _).drew⟩)
      (first
        | fail)
    rename_i hH
    have HBL := Lib.hid hH.2.2.2
    clear hH hc
    go_wp2_with fail
    go_ret
    exact ⟨_, HA.out, rfl, HBL.out⟩
  · have HA := Lib.hid (show (((t.args.length : Int) == 1) = true ↔ t.arOk) by simp [Tm.arOk, Tm.arity, arK, hk])
    have hc : (w.alloc (.cells #[.int .i64 11, .string t.name, .string t.other, .int .i64 t.n, .int .i64 t.ty.kind, .slice tp t.ty.args.length tc, .int .i64 t.res.kind, .slice rp t.res.args.length rc, .slice p t.args.length c] 35)).cell? ⟨1, 11, none⟩ = some (.int .i64 1) := by rw [HK.out _ 11]; rfl
    rw [hk]
    clear h4 hr hk hl
    go_enter Tryd.func66, Tryd.ntmps66
    go_wp2_with fail
    go_region_held3 (fun w' => w'.cell? ⟨w.heap.size, 0, none⟩ = some (.int .i64 11) ∧ w'.cell? ⟨w.heap.size, 8, none⟩ = some (.slice p t.args.length c) ∧ w'.cell? ⟨1, 11, none⟩ = some (.int .i64 1) ∧ Below w.heap.size w w')
      (first
        | (go_keep; done)
        | exact ⟨cell_of_blk (blk_new w _) 0, cell_of_blk (blk_new w _) 8, hc, (HB.out _).drew⟩)
      (first
        | fail)
    rename_i hH
    have HBL := Lib.hid hH.2.2.2
    clear hH hc
    go_wp2_with fail
    go_ret
    exact ⟨_, HA.out, rfl, HBL.out⟩
  · have HA := Lib.hid (show (((t.args.length : Int) == 1) = true ↔ t.arOk) by simp [Tm.arOk, Tm.arity, arK, hk])
    have hc : (w.alloc (.cells #[.int .i64 12, .string t.name, .string t.other, .int .i64 t.n, .int .i64 t.ty.kind, .slice tp t.ty.args.length tc, .int .i64 t.res.kind, .slice rp t.res.args.length rc, .slice p t.args.length c] 35)).cell? ⟨1, 12, none⟩ = some (.int .i64 1) := by rw [HK.out _ 12]; rfl
    rw [hk]
    clear h4 hr hk hl
    go_enter Tryd.func66, Tryd.ntmps66
    go_wp2_with fail
    go_region_held3 (fun w' => w'.cell? ⟨w.heap.size, 0, none⟩ = some (.int .i64 12) ∧ w'.cell? ⟨w.heap.size, 8, none⟩ = some (.slice p t.args.length c) ∧ w'.cell? ⟨1, 12, none⟩ = some (.int .i64 1) ∧ Below w.heap.size w w')
      (first
        | (go_keep; done)
        | exact ⟨cell_of_blk (blk_new w _) 0, cell_of_blk (blk_new w _) 8, hc, (HB.out _).drew⟩)
      (first
        | fail)
    rename_i hH
    have HBL := Lib.hid hH.2.2.2
    clear hH hc
    go_wp2_with fail
    go_ret
    exact ⟨_, HA.out, rfl, HBL.out⟩
  · have HA := Lib.hid (show (((t.args.length : Int) == 1) = true ↔ t.arOk) by simp [Tm.arOk, Tm.arity, arK, hk])
    have hc : (w.alloc (.cells #[.int .i64 13, .string t.name, .string t.other, .int .i64 t.n, .int .i64 t.ty.kind, .slice tp t.ty.args.length tc, .int .i64 t.res.kind, .slice rp t.res.args.length rc, .slice p t.args.length c] 35)).cell? ⟨1, 13, none⟩ = some (.int .i64 1) := by rw [HK.out _ 13]; rfl
    rw [hk]
    clear h4 hr hk hl
    go_enter Tryd.func66, Tryd.ntmps66
    go_wp2_with fail
    go_region_held3 (fun w' => w'.cell? ⟨w.heap.size, 0, none⟩ = some (.int .i64 13) ∧ w'.cell? ⟨w.heap.size, 8, none⟩ = some (.slice p t.args.length c) ∧ w'.cell? ⟨1, 13, none⟩ = some (.int .i64 1) ∧ Below w.heap.size w w')
      (first
        | (go_keep; done)
        | exact ⟨cell_of_blk (blk_new w _) 0, cell_of_blk (blk_new w _) 8, hc, (HB.out _).drew⟩)
      (first
        | fail)
    rename_i hH
    have HBL := Lib.hid hH.2.2.2
    clear hH hc
    go_wp2_with fail
    go_ret
    exact ⟨_, HA.out, rfl, HBL.out⟩
end Go.Proofs.YtfeijijeohfpgaaDoor
namespace Go.Proofs.YtfeijijeohfpgaaDoor
open Go Go.RowKit

theorem iter_below (w : World) (s : ByteArray) (pos : Nat) : Below w.heap.size w (w.iter s pos) := (Below.refl _ _).alloc (Nat.le_refl _) _
theorem size_nil {s : ByteArray} (h : s.toList = []) : s.size = 0 := by
  rw [ByteArray.toList_eq] at h
  obtain ⟨⟨l⟩⟩ := s
  have : l = [] := h
  subst this
  rfl
theorem nil_size {s : ByteArray} (h : s.size = 0) : s.toList = [] := by
  rw [ByteArray.toList_eq]
  obtain ⟨⟨l⟩⟩ := s
  exact List.eq_nil_of_length_eq_zero h

set_option maxRecDepth 100000 in
set_option maxHeartbeats 1000000 in
theorem nmI_loop (s : ByteArray) (w : World) (h1 : 1 ≤ s.size) (h4 : s.size ≤ 4) (hfree : ¬ Res s) : Calls Tryd.prog 67 #[.string s] w (Tells (Nm s) w) := by
  have t0 : (s.toList == []) = false := by
    rw [beq_eq_false_iff_ne]
    exact fun hc => absurd (size_nil hc) (by omega)
  have HC : Hid (Calls Tryd.prog 87 #[.string s] w fun e w' => e = .returned (.bool false) ∧ Below w.heap.size w w') := Lib.hid ((res_any s w).mono fun e w' ⟨r, hr, he, hb⟩ => by
    cases r with
    | true => exact absurd (hr.1 rfl) hfree
    | false => exact ⟨he, hb⟩)
  have HE := Lib.hid (fun (h : ∀ k, okAt s k) => Nm.mk h h1 h4 hfree)
  clear hfree
  go_enter Tryd.func67, Tryd.ntmps67
  go_wp2_with fail
  refine HC.out.mono ?_
  rintro e w1 ⟨rfl, hb1⟩
  have HB := Lib.hid hb1
  clear hb1 HC
  go_wp2_with fail
  go_loopw [3] (fun _ wr => ∃ pos : Nat, wr = w1.iter s pos ∧ Hid (∀ j, j < pos → okAt s j)) (fun _ wr => s.size - wr.iterPos w1.heap.size)
  case atStart => exact ⟨0, rfl, Lib.hid (fun j hj => absurd hj (Nat.not_lt_zero j))⟩
  case round =>
    obtain ⟨pos, rfl, HK⟩ := hrel
    have HBI := Lib.hid (HB.out.trans ((iter_below w1 s pos).mono HB.out.size))
    by_cases hp : pos < s.size
    · by_cases ha : s[pos].toNat < 128
      · have hnx : ∀ ty, (Instr.next (.pointer (some ⟨w1.heap.size, 0, none⟩)) true ty).run Tryd.prog (w1.iter s pos) = _ := fun ty => run_next_ascii w1 s pos ty hp ha
        have HBN := Lib.hid (HB.out.trans ((iter_below w1 s (pos + 1)).mono HB.out.size))
        by_cases hlet : 97 ≤ s[pos].toNat ∧ s[pos].toNat ≤ 122
        · obtain ⟨l1, l2⟩ := hlet
          have HN := Lib.hid (ok_next HK.out (ok_letter l1 l2))
          go_wp2_with fail
          go_roundw
          case rel => exact ⟨pos + 1, rfl, HN⟩
          case measure => simp; omega
        · by_cases hdig : 1 ≤ pos ∧ 48 ≤ s[pos].toNat ∧ s[pos].toNat ≤ 57
          · obtain ⟨d0, d1, d2⟩ := hdig
            have HN := Lib.hid (ok_next HK.out (ok_digit d0 d1 d2))
            have t := at_more d0
            clear hlet
            go_wp2_with fail
            go_roundw
            case rel => exact ⟨pos + 1, rfl, HN⟩
            case measure => simp; omega
          · have HN := Lib.hid (ok_bad (s := s) (k := pos) (hk := hp) (by omega) (by omega))
            rcases (show s[pos].toNat < 48 ∨ (pos = 0 ∧ 48 ≤ s[pos].toNat ∧ s[pos].toNat ≤ 57) ∨ (57 < s[pos].toNat ∧ s[pos].toNat < 97) ∨ 122 < s[pos].toNat by omega) with b1 | ⟨b0, b1, b2⟩ | ⟨b1, b2⟩ | b1
            all_goals clear hdig hlet
            · skip
              have p48 : decide ((48 : Int) ≤ (s[pos].toNat : Int)) = false := by simp; omega
              have p57 : decide ((s[pos].toNat : Int) ≤ 57) = true := by simp; omega
              have p97 : decide ((97 : Int) ≤ (s[pos].toNat : Int)) = false := by simp; omega
              have p122 : decide ((s[pos].toNat : Int) ≤ 122) = true := by simp; omega
              go_wp2_with fail
              go_ret
              exact ⟨false, tells_no HN.out, rfl, HBN.out⟩
            · subst b0
              have p48 : decide ((48 : Int) ≤ (s[0].toNat : Int)) = true := by simp; omega
              have p57 : decide ((s[0].toNat : Int) ≤ 57) = true := by simp; omega
              have p97 : decide ((97 : Int) ≤ (s[0].toNat : Int)) = false := by simp; omega
              have p122 : decide ((s[0].toNat : Int) ≤ 122) = true := by simp; omega
              go_wp2_with fail
              go_ret
              exact ⟨false, tells_no HN.out, rfl, HBN.out⟩
            · skip
              have p48 : decide ((48 : Int) ≤ (s[pos].toNat : Int)) = true := by simp; omega
              have p57 : decide ((s[pos].toNat : Int) ≤ 57) = false := by simp; omega
              have p97 : decide ((97 : Int) ≤ (s[pos].toNat : Int)) = false := by simp; omega
              have p122 : decide ((s[pos].toNat : Int) ≤ 122) = true := by simp; omega
              go_wp2_with fail
              go_ret
              exact ⟨false, tells_no HN.out, rfl, HBN.out⟩
            · skip
              have p48 : decide ((48 : Int) ≤ (s[pos].toNat : Int)) = true := by simp; omega
              have p57 : decide ((s[pos].toNat : Int) ≤ 57) = false := by simp; omega
              have p97 : decide ((97 : Int) ≤ (s[pos].toNat : Int)) = true := by simp; omega
              have p122 : decide ((s[pos].toNat : Int) ≤ 122) = false := by simp; omega
              go_wp2_with fail
              go_ret
              exact ⟨false, tells_no HN.out, rfl, HBN.out⟩
      · obtain ⟨r, hr⟩ : ∃ r, r = (Utf8.decode s pos).1 := ⟨_, rfl⟩
        obtain ⟨wd, hwd⟩ : ∃ wd, wd = (Utf8.decode s pos).2 := ⟨_, rfl⟩
        have hnx : ∀ ty, (Instr.next (.pointer (some ⟨w1.heap.size, 0, none⟩)) true ty).run Tryd.prog (w1.iter s pos) = _ := fun ty => run_next_any w1 s pos ty hp
        have hrh : 128 ≤ r := by rw [hr]; exact (decode_high s pos hp (by omega)).1
        rw [← hr, ← hwd] at hnx
        clear hr hwd
        have HBN := Lib.hid (HB.out.trans ((iter_below w1 s (pos + wd)).mono HB.out.size))
        have HN := Lib.hid (ok_bad (s := s) (k := pos) (hk := hp) (by omega) (by omega))
        have p48 : decide ((48 : Int) ≤ (r : Int)) = true := by simp; omega
        have p57 : decide ((r : Int) ≤ 57) = false := by simp; omega
        have p97 : decide ((97 : Int) ≤ (r : Int)) = true := by simp; omega
        have p122 : decide ((r : Int) ≤ 122) = false := by simp; omega
        go_wp2_with fail
        go_ret
        exact ⟨false, tells_no HN.out, rfl, HBN.out⟩
    · have hnx : ∀ ty, (Instr.next (.pointer (some ⟨w1.heap.size, 0, none⟩)) true ty).run Tryd.prog (w1.iter s pos) = _ := fun ty => run_next_end w1 s pos ty hp
      have HN := Lib.hid (HE.out (ok_end HK.out (by omega)))
      go_wp2_with fail
      go_ret
      exact ⟨true, tells_yes HN.out, rfl, HBI.out⟩

set_option maxRecDepth 100000 in
set_option maxHeartbeats 1000000 in
theorem nmI_any (s : ByteArray) (w : World) (hs : s.size ≤ 9223372036854775807) : Calls Tryd.prog 67 #[.string s] w (Tells (Nm s) w) := by
  by_cases h0 : s.size = 0
  · have t0 : (s.toList == []) = true := by rw [nil_size h0]; rfl
    have HN := Lib.hid (show ¬ Nm s from fun h => absurd h.lo (by omega))
    clear h0
    go_enter Tryd.func67, Tryd.ntmps67
    go_wp2_with fail
    go_ret
    exact ⟨false, tells_no HN.out, rfl, Below.refl _ _⟩
  have t0 : (s.toList == []) = false := by
    rw [beq_eq_false_iff_ne]
    exact fun hc => h0 (size_nil hc)
  by_cases h4 : 4 < (s.size : Int)
  · have HN := Lib.hid (show ¬ Nm s from fun h => absurd h.hi (by omega))
    go_enter Tryd.func67, Tryd.ntmps67
    go_wp2_with fail
    go_ret
    exact ⟨false, tells_no HN.out, rfl, Below.refl _ _⟩
  by_cases hres : Res s
  · have HN := Lib.hid (show ¬ Nm s from fun h => h.free hres)
    have HC : Hid (Calls Tryd.prog 87 #[.string s] w fun e w' => e = .returned (.bool true) ∧ Below w.heap.size w w') := Lib.hid ((res_any s w).mono fun e w' ⟨r, hr, he, hb⟩ => by
      cases r with
      | true => exact ⟨he, hb⟩
      | false => exact absurd (hr.2 hres) (by decide))
    clear hres
    go_enter Tryd.func67, Tryd.ntmps67
    go_wp2_with fail
    refine HC.out.mono ?_
    rintro e w1 ⟨rfl, hb1⟩
    go_wp2_with fail
    go_ret
    exact ⟨false, tells_no HN.out, rfl, hb1⟩
  exact nmI_loop s w (by omega) (by omega) hres

end Go.Proofs.YtfeijijeohfpgaaDoor
namespace Go.Proofs.YtfeijijeohfpgaaDoor
open Go Go.RowKit Go.Shelf
attribute [local go_sem] Oper.semAt_some

abbrev LT (w : World) (C : Nat → Prop) (l : List Ty) (v : Value) : Prop := TS w C l v
abbrev NT (w : World) (C : Nat → Prop) (t : Ty) (v : Value) : Prop := TT w C t v
structure At2 (w : World) (b o : Nat) (t : Ty) (p : Option Addr) (c : Nat) : Prop where
  kind : w.cell? ⟨b, o, none⟩ = some (.int .i64 t.kind)
  args : w.cell? ⟨b, o + 1, none⟩ = some (.slice p t.args.length c)
theorem ntT_mk {w : World} {C : Nat → Prop} {t : Ty} {p : Option Addr} {c : Nat} (h : TS w C t.args (.slice p t.args.length c)) : NT w C t (.agg #[.int .i64 t.kind, .slice p t.args.length c]) := ⟨_, rfl, h⟩
abbrev TS' (w : World) (C : Nat → Prop) (t : Ty) (p : Option Addr) (c : Nat) : Prop := TS w C t.args (.slice p t.args.length c)

mutual
def walkT : Ty → Nat → List (Ty × Nat)
  | .mk k ts, d => (.mk k ts, d) :: walkST ts (d + 1)
def walkST : List Ty → Nat → List (Ty × Nat)
  | [], _ => []
  | t :: ts, d => walkT t d ++ walkST ts d
end
theorem walkT_eq (t : Ty) (d : Nat) : walkT t d = (t, d) :: walkST t.args (d + 1) := by cases t; rfl
theorem walkST_one (t : Ty) (d : Nat) : walkST [t] d = walkT t d := by simp [walkST]
mutual
theorem walkT_length : ∀ (t : Ty) (d : Nat), (walkT t d).length = t.nodes
  | .mk k ts, d => by simp only [walkT, List.length_cons, walkST_length ts, Ty.nodes]; omega
theorem walkST_length : ∀ (ts : List Ty) (d : Nat), (walkST ts d).length = nodesS ts
  | [], d => by simp [walkST, nodesS]
  | t :: ts, d => by simp only [walkST, List.length_append, walkST_length ts, walkT_length t, nodesS]
end
abbrev WaitT := List (List Ty × Value)
def rWT : WaitT → List (Ty × Nat)
  | [] => []
  | e :: r => walkST e.1 (r.length + 1) ++ rWT r
def stWalkT (st : WaitT) : List (Ty × Nat) := rWT st.reverse
theorem stWalkT_snoc (st : WaitT) (e : List Ty × Value) : stWalkT (st ++ [e]) = walkST e.1 (st.length + 1) ++ stWalkT st := by simp [stWalkT, rWT]
theorem stWalkT_nil : stWalkT [] = [] := rfl

theorem wsndT_last (st : WaitT) (e : List Ty × Value) : ((st ++ [e]).map (·.2))[st.length]? = some e.2 := by simp
theorem wsndT_take (st : WaitT) (e : List Ty × Value) : ((st ++ [e]).map (·.2)).take (st.length * 1) = st.map (·.2) := by simp
theorem wsndT_set (st : WaitT) (e : List Ty × Value) (l : List Ty) (u : Value) : ((st ++ [e]).map (·.2)).set st.length u = (st ++ [(l, u)]).map (·.2) := by
  simp

theorem infoLT : (Tryd.prog.info? 30).map (fun i => (i.zero, i.size, i.bytes)) = some (some (.slice none 0 0), 1, 24) := by kernel_rfl
structure MidT (W wr : World) (C : Nat → Prop) (t : Ty) (p : Option Addr) (c : Nat) (J : List (Ty × Nat) → World → Prop) (pre : List (Ty × Nat)) (st : WaitT) (g cap : Nat) : Prop where
  own : wr.ownsRow (W.heap.size + 1) 30 1 (.slice (some ⟨g, 0, none⟩) st.length cap) st.length (st.map (·.2))
  j : J pre wr
  ts : ∀ e ∈ st, LT W C e.1 e.2 ∨ e = ([t], .slice (some ⟨W.heap.size, 0, none⟩) 1 1)
  stays : Stays C W wr
  size : W.heap.size ≤ wr.heap.size
  root : wr.heap[W.heap.size]? = some (.cells #[.int .i64 t.kind, .slice p t.args.length c] 32 (0, 0))
  node : TS' W C t p c
  cnt : st.length ≤ pre.length + 1

theorem MidT.lt {W wr : World} {C : Nat → Prop} {t : Ty} {p : Option Addr} {c : Nat} {J : List (Ty × Nat) → World → Prop} {pre : List (Ty × Nat)} {st : WaitT} {g cap : Nat} (h : MidT W wr C t p c J pre st g cap) : W.heap.size < wr.heap.size := (Array.getElem?_eq_some_iff.1 h.root).1
theorem MidT.open {W wr : World} {C : Nat → Prop} {t : Ty} {p : Option Addr} {c : Nat} {J : List (Ty × Nat) → World → Prop} {pre : List (Ty × Nat)} {st : WaitT} {g cap : Nat} {x : Ty} {l : List Ty} {v : Value} (h : MidT W wr C t p c J pre (st ++ [(x :: l, v)]) g cap) :
    ∃ (b o c : Nat) (p' : Option Addr) (c' : Nat), v = .slice (some ⟨b, o, none⟩) (l.length + 1) c ∧ l.length + 1 ≤ c ∧ c ≤ 9223372036854775807 ∧ (C b ∨ b = W.heap.size) ∧ b < wr.heap.size ∧
      At2 wr b o x p' c' ∧ TS' W C x p' c' ∧ ∀ q, (l ≠ [] → q = some ⟨b, o + 2, none⟩) → LT W C l (.slice q l.length (c - 1)) := by
  rcases h.ts (x :: l, v) (by simp) with hT | he
  · simp only at hT
    cases hT with
    | @cons _ b o c S h1 hc hm hC hb hk hs hr =>
      obtain ⟨p', c', hf⟩ := (hr 0 x rfl).form
      have e0 := hk 0 x rfl
      have e1 := hs 0 x rfl
      rw [Nat.zero_mul, Nat.add_zero] at e0 e1
      rw [hf] at e1
      have hkeep : ∀ i u, W.cell? ⟨b, i, none⟩ = some u → wr.cell? ⟨b, i, none⟩ = some u := fun i u hu => (World.cell?_of_block (w := W) (a := ⟨b, i, none⟩) (h.stays.2 b hC hb)).trans hu
      refine ⟨b, o, c, p', c', rfl, hc, hm, Or.inl hC, Nat.lt_of_lt_of_le hb h.size, ⟨hkeep _ _ e0, hkeep _ _ e1⟩, (by show TS W C x.args _; rw [← hf]; exact hr 0 x rfl), fun q hq => ?_⟩
      by_cases hl : l = []
      · subst hl; exact .nil _ _
      · rw [hq hl]
        have hl1 : 1 ≤ l.length := by cases l with | nil => exact absurd rfl hl | cons => simp
        refine .cons (fun j => S (j + 1)) hl1 (by simp only [List.length_cons] at hc; omega) (by omega) hC hb (fun j y hj => ?_) (fun j y hj => ?_) (fun j y hj => hr (j + 1) y (by simpa using hj))
        · have := hk (j + 1) y (by simpa using hj)
          rw [show o + (j + 1) * 2 = o + 2 + j * 2 by omega] at this; exact this
        · have := hs (j + 1) y (by simpa using hj)
          rw [show o + (j + 1) * 2 = o + 2 + j * 2 by omega] at this; exact this
  · simp only [Prod.mk.injEq, List.cons.injEq] at he
    obtain ⟨⟨rfl, rfl⟩, rfl⟩ := he
    refine ⟨W.heap.size, 0, 1, p, c, rfl, by simp, by omega, Or.inr rfl, h.lt, ?_, h.node, fun q hq => ?_⟩
    · have hr := h.root
      exact ⟨cell_of_blk hr 0, cell_of_blk hr 1⟩
    · exact .nil _ _

theorem argsT_any (k : Int) (p : Option Addr) (n c : Nat) (w : World) : Calls Tryd.prog 108 #[.agg #[.int .i64 k, .slice p n c]] w fun e w' => e = .returned (.slice p n c) ∧ Below w.heap.size w w' := by
  go_enter Tryd.func108, Tryd.ntmps108
  go_wp2
  go_ret
  exact ⟨rfl, (Below.refl _ _).alloc (Nat.le_refl _) _⟩

set_option maxRecDepth 100000 in
set_option maxHeartbeats 4000000 in
theorem nodesT_it (l Bt Bp : Nat) (t : Ty) (p : Option Addr) (c : Nat) (Cb C : Nat → Prop) (W : World) (J Jx : List (Ty × Nat) → World → Prop)
    (hBt : W.heap[Bt]? = some (.cells #[.int .i64 t.kind, .slice p t.args.length c] 32 (0, 0))) (hBp : W.heap[Bp]? = some (.cells #[.func (.func 108) #[] #[]] 128 (0, 0))) (hT : TS' W C t p c) (hn : t.nodes ≤ 2097153)
    (hCb : ∀ b, Cb b → b < W.heap.size) (hC : ∀ b, C b → ¬ Cb b ∧ b < W.heap.size) (hCp : C Bp)
    (hJ : ∀ pre A B, J pre A → Below W.heap.size A B → J pre B)
    (hY : ∀ pre x v d W1, J pre W1 → pre ++ [(x, d)] <+: walkT t 1 → NT W1 C x v → YieldAt Fence.wide 0 Tryd.prog l #[v, .int .i64 (d : Nat)] W1 fun e W' =>
      (e = .returned (.bool true) ∧ J (pre ++ [(x, d)]) W' ∧ Holds Cb W1 W') ∨ (e = .returned (.bool false) ∧ Jx (pre ++ [(x, d)]) W'))
    (h0 : J [] W) :
    CallsIn Fence.wide 1 Tryd.prog 116 #[.func (.yield l) #[] #[], .pointer (some ⟨Bt, 0, none⟩), .pointer (some ⟨Bp, 0, none⟩)] W fun e W' =>
      (∃ v, e = .returned v) ∧ (J (walkT t 1) W' ∨ ∃ pre, pre <+: walkT t 1 ∧ Jx pre W') := by
  obtain ⟨i0, hi, hz0, hz1, hz2⟩ := info_parts infoLT
  have HT := Lib.hid hT
  have HY := Lib.hid hY
  have HJ := Lib.hid hJ
  have HJ0 := Lib.hid h0
  have HCb := Lib.hid hCb
  have HC := Lib.hid hC
  have HCP := Lib.hid hCp
  have HBP := Lib.hid hBp
  have HN := Lib.hid hn
  have k0 := cell_of_blk hBt 0
  have k1 := cell_of_blk hBt 1
  have kp := cell_of_blk hBp 0
  simp only [List.getElem?_toArray, List.getElem?_cons_zero, List.getElem?_cons_succ] at k0 k1 kp
  clear hT hY hJ h0 hCb hC hBt hBp hn
  refine callsIn_of_wp Tryd.func116 rfl trivial ?_ rfl
  simp only [Tryd.ntmps116, List.size_toArray, List.length_cons, List.length_nil, Nat.reduceAdd, Nat.reduceSub, Array.replicate_succ, Array.replicate_zero, List.push_toArray, List.append_toArray, List.nil_append, List.cons_append]
  gi_wp2_with fail
  gi_loopg [4] (2 * (walkT t 1).length + 1) (fun k v wr => ∃ (pre : List (Ty × Nat)) (st : WaitT) (g cap : Nat), v = .slice (some ⟨g, 0, none⟩) st.length cap ∧ k = 2 * (stWalkT st).length + st.length ∧ pre ++ stWalkT st = walkT t 1 ∧ MidT W wr C t p c J pre st g cap)
  case atStart =>
    refine ⟨[], [([t], .slice (some ⟨W.heap.size, 0, none⟩) 1 1)], W.heap.size + 1, 1, rfl, by simp [stWalkT, rWT, walkST_one], by simp [stWalkT, rWT, walkST_one], ?_⟩
    have hb : Below W.heap.size W ((W.alloc (.cells #[.int .i64 t.kind, .slice p t.args.length c] 32)).alloc (.cells #[.slice (some ⟨W.heap.size, 0, none⟩) 1 1] 30)) := ((Below.refl _ W).alloc (Nat.le_refl _) _).alloc (by simp) _
    refine ⟨?_, HJ.out _ _ _ HJ0.out hb, ?_, .of_below hb, hb.size, ?_, HT.out, by simp⟩
    · have h1 := World.ownsRow_lit (base := W.heap.size + 1) (e := 30) (size := 1) (W.alloc (.cells #[.int .i64 t.kind, .slice p t.args.length c] 32)) #[.slice (some ⟨W.heap.size, 0, none⟩) 1 1] 1 (by simp) (by unfold maxLen; omega) rfl
      rw [show (W.alloc (.cells #[.int .i64 t.kind, .slice p t.args.length c] 32)).heap.size = W.heap.size + 1 by simp] at h1
      exact h1
    · intro e he
      simp only [List.mem_singleton] at he
      exact Or.inr he
    · rw [Below.heap_alloc _ _ _ (by simp)]
      exact blk_new _ _
  case round =>
    rename World => wo
    obtain ⟨pre, st, g, cap, rfl, rfl, hord, hM⟩ := hrel
    rcases snoc_cases st with rfl | ⟨st0, ⟨ls, sl⟩, rfl⟩
    · have HM := Lib.hid hM
      have HO := Lib.hid hord
      clear hM hord
      gi_wp2
      go_end0
      have hp : pre = walkT t 1 := by have := HO.out; simpa [stWalkT, rWT] using this
      exact ⟨⟨_, rfl⟩, .inl (hp ▸ HM.out.j)⟩
    · have hlen : (st0 ++ [((ls, sl) : List Ty × Value)]).length = st0.length + 1 := by simp
      have hown := hM.own
      rw [hlen] at hown
      rw [hlen]
      obtain ⟨hcap1, hcap2, hg1, hg2⟩ := row_cap hown
      have k0 := (hown.cellAt st0.length (by omega)).trans (wsndT_last st0 _)
      have kz := hown.frozenAt st0.length
      simp only at k0
      unfold maxLen at hcap2
      have i0' : (0 : Int) ≤ (st0.length : Int) := Int.natCast_nonneg _
      have i1' : (st0.length : Int) < ((st0.length : Int) + 1) := by omega
      have hcnt : st0.length ≤ 2097153 := by
        have h1 := hM.cnt
        have h2 := congrArg List.length hord
        have h3 := HN.out
        rw [List.length_append, walkT_length] at h2
        rw [hlen] at h1
        omega
      cases ls with
      | nil =>
        have HM := Lib.hid hM
        have HO := Lib.hid hord
        have HOWN := Lib.hid hown
        obtain ⟨a, c0, hsl⟩ : ∃ a c, sl = .slice a 0 c := by
          rcases hM.ts ([], sl) (by simp) with h1 | h1
          · exact h1.form
          · simp at h1
        subst hsl
        clear hM hord hown
        gi_wp2_with fail
        go_roundg (2 * (stWalkT st0).length + st0.length)
        case rel =>
          have h1 := row_take HOWN.out (Nat.le_succ st0.length)
          rw [wsndT_take] at h1
          refine ⟨pre, st0, g, cap, rfl, rfl, by have := HO.out; rwa [stWalkT_snoc] at this, h1, HM.out.j, fun e he => HM.out.ts e (List.mem_append_left _ he), HM.out.stays, HM.out.size, HM.out.root, HM.out.node, ?_⟩
          have := HM.out.cnt
          rw [List.length_append] at this
          omega
        case measure =>
          rw [stWalkT_snoc, List.length_append, List.length_append]
          simp only [walkST, List.length_nil, List.length_singleton]
          omega
      | cons x ls =>
        obtain ⟨b, o, c0, p', c', rfl, hlc, hc63, hbC, hbw, hcell, hnx, htail⟩ := hM.open
        have hbg : b ≠ g := by
          have h1 := hg1
          rcases hbC with h2 | h2
          · have := (HC.out b h2).2
            omega
          · omega
        obtain ⟨q, hq⟩ : ∃ q, (if c0 = 1 then some (⟨b, o, none⟩ : Addr) else some ⟨b, o + 2, none⟩) = q := ⟨_, rfl⟩
        have htl : LT W C ls (.slice q ls.length (c0 - 1)) := htail q (fun hne => by
          have h1 : 1 ≤ ls.length := by cases ls with | nil => exact absurd rfl hne | cons => simp
          rw [← hq, if_neg (by omega)])
        obtain ⟨hst, hgr⟩ := hown.stored st0.length (.slice q ls.length (c0 - 1))
        rw [wsndT_set st0 _ ls] at hst
        have hb1 : Below (W.heap.size + 1) wo (wo.setCell ⟨g, st0.length, none⟩ (.slice q ls.length (c0 - 1))) := (Below.refl _ wo).setCell (p := ⟨g, st0.length, none⟩) hg1 _
        have hcC : ∀ z, C z → z < W.heap.size := fun z hz => (HC.out z hz).2
        have hst1 : Stays C W (wo.setCell ⟨g, st0.length, none⟩ (.slice q ls.length (c0 - 1))) := hM.stays.trans ⟨hb1.size, fun z hz _ => hb1.block z (by have := hcC z hz; omega)⟩
        have hpre : pre ++ [(x, st0.length + 1)] <+: walkT t 1 := ⟨walkST x.args (st0.length + 1 + 1) ++ (walkST ls (st0.length + 1) ++ stWalkT st0), by rw [← hord, stWalkT_snoc]; simp only [walkST, walkT_eq, List.cons_append, List.append_assoc, List.nil_append]⟩
        obtain ⟨fn, tmps, assign, body, hy, hR⟩ := HY.out pre x (.agg #[.int .i64 x.kind, .slice p' x.args.length c']) (st0.length + 1) _ (HJ.out _ _ _ hM.j (hb1.mono (by omega))) hpre (ntT_mk (hnx.stays hst1))
        rw [show ((st0.length + 1 : Nat) : Int) = (st0.length : Int) + 1 from rfl] at hy
        have hroot : (wo.setCell ⟨g, st0.length, none⟩ (.slice q ls.length (c0 - 1))).heap[W.heap.size]? = some (.cells #[.int .i64 t.kind, .slice p t.args.length c] 32 (0, 0)) := (hb1.block _ (by omega)).trans hM.root
        have HM := Lib.hid hM
        have HO := Lib.hid hord
        have HST := Lib.hid hst
        have HB1 := Lib.hid hb1
        have HST1 := Lib.hid hst1
        have HPRE := Lib.hid hpre
        have HR := Lib.hid hR
        have HTL := Lib.hid htl
        have HNX := Lib.hid hnx
        have HBC := Lib.hid hbC
        have HROOT := Lib.hid hroot
        have HQ := Lib.hid hlc
        obtain ⟨f0, f1⟩ := hcell
        have hl1 : (1 : Int) ≤ ((ls.length : Int) + 1) := by omega
        clear hM hord hown hst hgr hb1 hst1 hpre hR htl htail hnx hbC hcC hroot
        gi_wp2_with fail
        refine HR.out.mono ?_
        rintro e W3 (⟨rfl, hJ3, hH3⟩ | ⟨rfl, hJx3⟩)
        · have hbnC : ¬ Cb b := by
            rcases HBC.out with h1 | h1
            · exact (HC.out b h1).1
            · intro hc; have := HCb.out b hc; omega
          have hgnC : ¬ Cb g := fun hc => by have := HCb.out g hc; omega
          have hs1 := HB1.out.size
          have hb3 : W3.heap[b]? = wo.heap[b]? := (hH3.2 b (by omega) hbnC).trans (Below.heap_setCell _ _ _ _ hbg)
          have hp3 : W3.heap[Bp]? = W.heap[Bp]? := by
            have h1 := HC.out Bp hCp
            have h2 := HM.out.size
            rw [hH3.2 Bp (by omega) h1.1]
            exact HST1.out.2 Bp hCp h1.2
          have hown3 := row_of_block HST.out (hH3.2 g (by omega) hgnC)
          have hr3 : W3.heap[W.heap.size]? = some (.cells #[.int .i64 t.kind, .slice p t.args.length c] 32 (0, 0)) := by
            rw [hH3.2 W.heap.size (by have := HM.out.lt; omega) (fun hc => by have := HCb.out _ hc; omega)]
            exact HROOT.out
          have hlen3 : (st0 ++ [(ls, Value.slice q ls.length (c0 - 1))]).length = st0.length + 1 := by simp
          have hM3 : MidT W W3 C t p c J (pre ++ [(x, st0.length + 1)]) (st0 ++ [(ls, .slice q ls.length (c0 - 1))]) g cap := by
            refine ⟨?_, hJ3, fun e he => ?_, HST1.out.trans ⟨hH3.1, fun z hz hl => hH3.2 z hl (HC.out z hz).1⟩, ?_, hr3, HM.out.node, ?_⟩
            · rw [hlen3]; exact hown3
            · rcases List.mem_append.1 he with he | he
              · exact HM.out.ts e (List.mem_append_left _ he)
              · simp only [List.mem_singleton] at he
                subst he
                exact Or.inl HTL.out
            · have := hH3.1
              have := HM.out.size
              omega
            · have := HM.out.cnt
              rw [hlen] at this
              rw [hlen3, List.length_append, List.length_singleton]
              omega
          have g0 := (World.cell?_of_block (a := ⟨b, o, none⟩) hb3).trans f0
          have g1 := (World.cell?_of_block (a := ⟨b, o + 1, none⟩) hb3).trans f1
          have kp3 := cell_of_blk (hp3.trans HBP.out) 0
          simp only [List.getElem?_toArray, List.getElem?_cons_zero] at kp3
          have HM3 := Lib.hid hM3
          have HOWN3 := Lib.hid hown3
          have hsz3 := hM3.lt
          clear hJ3 hH3 hown3 hM3 hy HR k0 kz hb3 hp3 hr3 hbnC hgnC f0 f1 HB1 HST1 HST
          gi_wp2_with fail
          refine wpIn_wide.2 ?_
          go_region_law (first
            | (refine step_app1 (w0 := w1) (base := W.heap.size + 1) (v := .slice (some ⟨g, 0, none⟩) (st0.length + 1) cap) (n := st0.length + 1) (xs := (st0 ++ [(ls, Value.slice q ls.length (c0 - 1))]).map (·.2)) (cs := [.slice p' x.args.length c']) rfl (.tmp 40) (.tmp 46) rfl Tryd.underlying139 hi hz0 hz1 hz2 rfl (by decide) rfl (row_below HOWN3.out ((Below.refl W3.heap.size W3).drew.trans hb1)) _ rfl (by simp) rfl (fun u hu => by simp at hu; subst hu; rfl) (by unfold maxLen; omega) (by omega) (by have := hb1.size; simp at this; omega) ?_; intro w' g2 cap2 hA)
            | (go_simp; go_at_call 108; refine (argsT_any _ _ _ _ _).mono ?_; rintro e w1 ⟨rfl, hb1⟩))
          all_goals
            have HA := Lib.hid hA
            have HB := Lib.hid hb1
            clear hA hb1
            gi_wp2_with fail
            go_roundg (2 * (stWalkT ((st0 ++ [(ls, Value.slice q ls.length (c0 - 1))]) ++ [(x.args, .slice p' x.args.length c')])).length + (st0.length + 2))
            case rel =>
              have hb3 : Below W3.heap.size W3 w1 := (Below.refl W3.heap.size W3).drew.trans HB.out
              have hlen3 : (st0 ++ [(ls, Value.slice q ls.length (c0 - 1))]).length = st0.length + 1 := by simp
              have hg3 := (row_cap HOWN3.out).2.2
              have hs3 := hb3.size
              have hbw : Below (W.heap.size + 1) W3 w' := (hb3.mono (by omega)).trans HA.out.below
              refine ⟨pre ++ [(x, st0.length + 1)], (st0 ++ [(ls, .slice q ls.length (c0 - 1))]) ++ [(x.args, .slice p' x.args.length c')], g2, cap2, by rw [List.length_append, hlen3]; rfl, by rw [List.length_append, hlen3]; rfl, ?_, ?_⟩
              · rw [stWalkT_snoc, hlen3, stWalkT_snoc, ← HO.out, stWalkT_snoc]
                simp only [walkST, walkT_eq, List.cons_append, List.append_assoc, List.nil_append]
              · refine ⟨?_, HJ.out _ _ _ HM3.out.j (hbw.mono (by omega)), fun e he => ?_, HM3.out.stays.trans ⟨hbw.size, fun z hz _ => hbw.block z (by have := (HC.out z hz).2; omega)⟩, by have := hbw.size; have := HM3.out.size; omega, (hbw.block _ (by omega)).trans HM3.out.root, HM3.out.node, ?_⟩
                · rw [List.map_append, List.length_append, hlen3]
                  exact HA.out.own
                · rcases List.mem_append.1 he with he | he
                  · exact HM3.out.ts e he
                  · simp only [List.mem_singleton] at he
                    subst he
                    exact Or.inl (id HNX.out)
                · have := HM.out.cnt
                  rw [hlen] at this
                  simp only [List.length_append, List.length_cons, List.length_nil]
                  omega
            case measure =>
              have h1 := HO.out
              simp only [stWalkT_snoc, walkST, walkT_eq, List.length_append, List.length_cons, List.length_nil, Nat.zero_add]
              omega
        · gi_wp2_with fail
          refine bodyPost_ret (results_none rfl _ _ _) rfl ?_
          exact ⟨⟨_, rfl⟩, .inr ⟨pre ++ [(x, st0.length + 1)], HPRE.out, hJx3⟩⟩
end Go.Proofs.YtfeijijeohfpgaaDoor
namespace Go.Proofs.YtfeijijeohfpgaaDoor
open Go Go.RowKit Go.Shelf
attribute [local go_sem] Oper.semAt_some

theorem nstaysT {w w' : World} {C : Nat → Prop} {t : Ty} {v : Value} (h : NT w C t v) (hs : Stays C w w') : NT w' C t v := by
  obtain ⟨s, hv, h⟩ := h
  exact ⟨s, hv, h.stays hs⟩
abbrev encNT (x : Ty × Value × Nat) : Array Value := #[x.2.1, .int .i64 (x.2.2 : Nat)]
abbrev keyNT (x : Ty × Value × Nat) : Ty × Nat := (x.1, x.2.2)
abbrev GoodNT (C : Nat → Prop) (x : Ty × Value × Nat) (W : World) : Prop := NT W C x.1 x.2.1
structure IterT (w : World) (t : Ty) (p : Option Addr) (c : Nat) (Bt Bp : Nat) : Prop where
  bt : w.heap[Bt]? = some (.cells #[.int .i64 t.kind, .slice p t.args.length c] 32 (0, 0))
  bp : w.heap[Bp]? = some (.cells #[.func (.func 108) #[] #[]] 128 (0, 0))
  node : TS' w (· < w.heap.size) t p c
abbrev iterT (Bt Bp : Nat) : Value := .func (.func 116) #[] #[.pointer (some ⟨Bt, 0, none⟩), .pointer (some ⟨Bp, 0, none⟩)]

theorem nodesT_seq {w wl : World} {t : Ty} {p : Option Addr} {c : Nat} {Bt Bp : Nat} (h : IterT w t p c Bt Bp) (hn : t.nodes ≤ 2097153) (hb : Below w.heap.size w wl) (Cb : Nat → Prop) (hCb : ∀ b, Cb b → w.heap.size ≤ b ∧ b < wl.heap.size) :
    SeqT Fence.wide 1 Tryd.prog 116 #[.pointer (some ⟨Bt, 0, none⟩), .pointer (some ⟨Bp, 0, none⟩)] encNT keyNT (GoodNT (· < w.heap.size)) Cb (walkT t 1) wl := by
  intro l J Jx W hbW hJ hY hJ0
  have hbt := (Array.getElem?_eq_some_iff.1 h.bt).1
  have hbp := (Array.getElem?_eq_some_iff.1 h.bp).1
  have hbb : Below w.heap.size w W := hb.trans (hbW.mono hb.size)
  exact nodesT_it l Bt Bp t p c Cb (· < w.heap.size) W J Jx ((hbb.block _ hbt).trans h.bt) ((hbb.block _ hbp).trans h.bp) (h.node.stays (.of_below hbb)) hn
    (fun b hc => Nat.lt_of_lt_of_le (hCb b hc).2 hbW.size) (fun b hc => ⟨fun h2 => by have := (hCb b h2).1; omega, Nat.lt_of_lt_of_le hc hbb.size⟩) hbp hJ (fun pre x v d W1 h1 h2 h3 => hY pre (x, v, d) W1 h1 h2 h3) hJ0

theorem goodT_keep {C : Nat → Prop} {n : Nat} (hC : ∀ b, C b → b < n) (x : Ty × Value × Nat) (A B : World) (h : GoodNT C x A) (hb : Below n A B) : GoodNT C x B :=
  nstaysT h ⟨hb.size, fun b hc _ => hb.block b (hC b hc)⟩

def MakesIterT (t : Ty) (p : Option Addr) (c : Nat) (w : World) (e : Ending) (w' : World) : Prop := ∃ Bt Bp, e = .returned (iterT Bt Bp) ∧ IterT w' t p c Bt Bp ∧ Below w.heap.size w w' ∧ w.heap.size ≤ Bt ∧ w.heap.size ≤ Bp
set_option maxRecDepth 100000 in
theorem tnT_any {C : Nat → Prop} {t : Ty} {p : Option Addr} {c : Nat} {w : World} (h : TS' w C t p c) : Calls Tryd.prog 91 #[.agg #[.int .i64 t.kind, .slice p t.args.length c]] w (MakesIterT t p c w) := by
  have HT := Lib.hid (h.mono (C' := (· < w.heap.size)) (fun _ _ hl => hl))
  clear h
  go_enter Tryd.func91, Tryd.ntmps91
  go_wp2
  obtain ⟨wl, hwl, hsz, hbl, _, k1, k2⟩ := box_new3 w #[.int .i64 t.kind, .slice p t.args.length c] #[.int .i64 t.kind, .slice p t.args.length c] #[.func (.func 108) #[] #[]] 32 32 128
  rw [hwl]
  go_ret
  exact ⟨_, _, rfl, ⟨k1, k2, (HT.out.stays (.of_below hbl)).mono (fun z hz _ => by omega)⟩, hbl, by omega, by omega⟩

theorem walkT_pre {pre : List (Ty × Nat)} {t : Ty} (h : pre <+: walkT t 1) (hn : t.nodes ≤ 2097153) : pre.length ≤ 2097153 := by
  have h1 := h.length_le
  rw [walkT_length] at h1
  omega
def maxdT : List (Ty × Nat) → Nat
  | [] => 0
  | e :: l => max e.2 (maxdT l)
theorem maxdT_append (a b : List (Ty × Nat)) : maxdT (a ++ b) = max (maxdT a) (maxdT b) := by
  induction a with
  | nil => simp [maxdT]
  | cons e a ih => simp only [List.cons_append, maxdT, ih]; omega
theorem maxdT_snoc (a : List (Ty × Nat)) (e : Ty × Nat) : maxdT (a ++ [e]) = max (maxdT a) e.2 := by rw [maxdT_append]; simp [maxdT]
theorem maxdT_prefix {a b : List (Ty × Nat)} (h : a <+: b) : maxdT a ≤ maxdT b := by
  obtain ⟨c, rfl⟩ := h
  rw [maxdT_append]
  omega
theorem maxdT_le {l : List (Ty × Nat)} {n : Nat} : maxdT l ≤ n ↔ ∀ e ∈ l, e.2 ≤ n := by
  induction l with
  | nil => simp [maxdT]
  | cons e l ih =>
    rw [List.forall_mem_cons, ← ih]
    simp only [maxdT]
    omega
mutual
theorem maxdT_walk : ∀ (t : Ty) (d : Nat), maxdT (walkT t d) + 1 = d + t.depth
  | .mk k ts, d => by
    have h := maxdT_walkS ts d
    simp only [walkT, maxdT, Ty.depth]
    omega
theorem maxdT_walkS : ∀ (ts : List Ty) (d : Nat), max d (maxdT (walkST ts (d + 1))) = d + depthS ts
  | [], d => by simp [walkST, maxdT, depthS]
  | t :: ts, d => by
    have h1 := maxdT_walkS ts d
    have h2 := maxdT_walk t (d + 1)
    simp only [walkST, maxdT_append, depthS]
    omega
end

end Go.Proofs.YtfeijijeohfpgaaDoor
namespace Go.Proofs.YtfeijijeohfpgaaDoor
open Go Go.RowKit Go.Shelf
attribute [local go_sem] Oper.semAt_some
def SoFarT (ok : Ty → Bool) (ms md : Nat) (pre : List (Ty × Nat)) : Prop := (∀ e ∈ pre, ok e.1 = true ∧ e.2 ≤ md) ∧ pre.length ≤ ms
theorem soFarT_nil (ok : Ty → Bool) (ms md : Nat) : SoFarT ok ms md [] := ⟨by simp, by simp⟩
theorem SoFarT.next {ok : Ty → Bool} {ms md : Nat} {pre : List (Ty × Nat)} {x : Ty} {d : Nat} (h : SoFarT ok ms md pre) (h1 : ok x = true) (h2 : d ≤ md) (h3 : pre.length + 1 ≤ ms) : SoFarT ok ms md (pre ++ [(x, d)]) := by
  refine ⟨fun e he => ?_, by rw [List.length_append, List.length_singleton]; exact h3⟩
  rcases List.mem_append.1 he with he | he
  · exact h.1 e he
  · simp only [List.mem_singleton] at he; subst he; exact ⟨h1, h2⟩
theorem SoFarT.not {ok : Ty → Bool} {ms md : Nat} {t x : Ty} {d : Nat} {pre : List (Ty × Nat)} (h : pre ++ [(x, d)] <+: walkT t 1) (hb : ¬ (ok x = true ∧ d ≤ md ∧ pre.length + 1 ≤ ms)) : ¬ ((∀ e ∈ walkT t 1, ok e.1 = true ∧ e.2 ≤ md) ∧ t.nodes ≤ ms) := by
  rintro ⟨h1, h2⟩
  obtain ⟨h3, h4⟩ := h1 (x, d) (h.subset (by simp))
  have h5 := h.length_le
  rw [walkT_length, List.length_append, List.length_singleton] at h5
  exact hb ⟨h3, h4, by omega⟩

set_option maxRecDepth 100000 in
set_option maxHeartbeats 2000000 in
theorem withinT_any {t : Ty} {p : Option Addr} {c : Nat} {Bt Bp : Nat} {w : World} (h : IterT w t p c Bt Bp) (hn : t.nodes ≤ 2097153) (pf : FuncId) (ok : Ty → Bool) (ms md : Nat) (hpe : ∀ args w, (callFunc pf args).run Tryd.prog w = .ok (.enter pf args) w)
    (hp : ∀ (x : Ty) (v : Value) (d : Nat) (W : World), (x, d) ∈ walkT t 1 → NT W (· < w.heap.size) x v → Below w.heap.size w W → Calls Tryd.prog pf #[v] W (BoolRet (fun b => b = ok x) W)) :
    Calls Tryd.prog 90 #[iterT Bt Bp, .func (.func pf) #[] #[], .int .i64 (ms : Nat), .int .i64 (md : Nat)] w (BoolRet (fun r => r = true ↔ (∀ e ∈ walkT t 1, ok e.1 = true ∧ e.2 ≤ md) ∧ t.nodes ≤ ms) w) := by
  have HI := Lib.hid h
  have HPF := Lib.hid hp
  have HPE := Lib.hid hpe
  clear h hp hpe
  refine (callsIn_wide (n := 2)).1 ?_
  refine callsIn_of_wp_marks Tryd.func90 rfl trivial ?_ rfl
  simp only [Tryd.ntmps90, List.size_toArray, List.length_cons, List.length_nil, Nat.reduceAdd, Nat.reduceSub, Array.replicate_succ, Array.replicate_zero, List.push_toArray, List.append_toArray, List.nil_append, List.cons_append]
  gi_wp2_with fail
  obtain ⟨wl, hwl, hsz, hbl, k0, k1, k2, k3, k4⟩ := box_new5 w #[.func (.func pf) #[] #[]] #[.int .i64 (ms : Nat)] #[.int .i64 (md : Nat)] #[.bool false] #[.int .i64 0] 76 3 3 4 3
  rw [hwl]
  refine range_law (F := Fence.wide) (n := 2) rfl (by omega) (gf := 116) (lb := #[.pointer (some ⟨Bt, 0, none⟩), .pointer (some ⟨Bp, 0, none⟩)]) rfl trivial (enters_of Tryd.func116 (by kernel_rfl) rfl)
    (nodesT_seq HI.out hn hbl (fun b => b = w.heap.size + 3 ∨ b = w.heap.size + 4) (fun b h => by omega)) (fun _ => rfl) (fun b h => by omega)
    (fun pre W => W.heap[w.heap.size]? = some (.cells #[.func (.func pf) #[] #[]] 76 (0, 0)) ∧ W.heap[w.heap.size + 1]? = some (.cells #[.int .i64 (ms : Nat)] 3 (0, 0)) ∧ W.heap[w.heap.size + 1 + 1]? = some (.cells #[.int .i64 (md : Nat)] 3 (0, 0)) ∧
      W.heap[w.heap.size + 1 + 1 + 1]? = some (.cells #[.bool false] 4 (0, 0)) ∧ W.heap[w.heap.size + 1 + 1 + 1 + 1]? = some (.cells #[.int .i64 (pre.length : Nat)] 3 (0, 0)) ∧ SoFarT ok ms md pre ∧ Below w.heap.size w W)
    (fun j pre W => j = .ret ∧ W.cell? ⟨w.heap.size + 1 + 1 + 1, 0, none⟩ = some (.bool false) ∧ ¬ ((∀ e ∈ walkT t 1, ok e.1 = true ∧ e.2 ≤ md) ∧ t.nodes ≤ ms) ∧ Below w.heap.size w W)
    (fun pre A B h hb => ⟨(hb.block _ (by omega)).trans h.1, (hb.block _ (by omega)).trans h.2.1, (hb.block _ (by omega)).trans h.2.2.1, (hb.block _ (by omega)).trans h.2.2.2.1, (hb.block _ (by omega)).trans h.2.2.2.2.1, h.2.2.2.2.2.1, h.2.2.2.2.2.2.trans (hb.mono (by omega))⟩)
    (fun j pre A B h hb => ⟨h.1, (hb.cell (by show w.heap.size + 1 + 1 + 1 < _; omega)).trans h.2.1, h.2.2.1, h.2.2.2.trans (hb.mono (by omega))⟩)
    (goodT_keep (fun b h => by omega)) ⟨k0, k1, k2, k3, k4, soFarT_nil ok ms md, hbl⟩
    (fun x a' W => ∃ bx, W.heap[bx]? = some (.cells x.2.1.cells 32 (0, 0)) ∧ a' = { tmps := #[iterT Bt Bp, .func (.func pf) #[] #[], .int .i64 (ms : Nat), .int .i64 (md : Nat), undef, .pointer (some ⟨w.heap.size, 0, none⟩), .pointer (some ⟨w.heap.size + 1, 0, none⟩), .pointer (some ⟨w.heap.size + 1 + 1, 0, none⟩), .pointer (some ⟨w.heap.size + 1 + 1 + 1, 0, none⟩), .pointer (some ⟨w.heap.size + 1 + 1 + 1 + 1, 0, none⟩),
      .pointer (some ⟨bx, 0, none⟩), .int .i64 (x.2.2 : Nat), iterT Bt Bp, x.2.1, .int .i64 (x.2.2 : Nat), undef, undef, undef, undef, undef, undef, undef, undef, undef, undef, undef, undef, undef, undef, undef, undef], defers := [] })
    (fun x a' W l r o h hl => by
      obtain ⟨bx, h2, h3⟩ := h
      exact ⟨bx, (World.putObj_heap_other (fun e => by rw [e, hl] at h2; cases h2)).trans h2, h3⟩) ?assign ?body ?done ?stop
  case assign =>
    rintro l ⟨x, v, d⟩ W K hG hK
    have hG : TT W (· < w.heap.size) x v := hG
    obtain ⟨s', rfl, hG'⟩ := hG
    obtain ⟨p', c', rfl⟩ := hG'.form
    have HK := Lib.hid hK
    clear hK
    gi_wp2
    exact HK.out _ _ ((Below.refl _ _).alloc (Nat.le_refl _) _) ⟨W.heap.size, blk_new _ _, by simp⟩
  case body =>
    rintro l pre ⟨x, v, d⟩ a' W ⟨hf, hms', hmd', hr, hs, hso, hB⟩ hpre hG ⟨bx, hbx, rfl⟩
    have hpre : pre ++ [(x, d)] <+: walkT t 1 := hpre
    have hbx : W.heap[bx]? = some (.cells v.cells 32 (0, 0)) := hbx
    have hlen := walkT_pre hpre hn
    rw [List.length_append, List.length_singleton] at hlen
    have hd : d ≤ 2097153 := by
      have h1 := maxdT_prefix hpre
      have h2 := maxdT_walk t 1
      have h3 := t.depth_nodes
      rw [maxdT_snoc] at h1
      simp only at h1
      omega
    have hmem : (x, d) ∈ walkT t 1 := hpre.subset (by simp)
    have hG : TT W (· < w.heap.size) x v := hG
    obtain ⟨s', rfl, hG'⟩ := hG
    obtain ⟨p', c', rfl⟩ := hG'.form
    simp only [Value.cells] at hbx
    have s0 := cell_of_blk hs 0
    have sz := unfrozen_of_blk hs 0
    have f0 := cell_of_blk hf 0
    have x0 := cell_of_blk hbx 0
    have x1 := cell_of_blk hbx 1
    simp only [List.getElem?_toArray, List.getElem?_cons_zero, List.getElem?_cons_succ] at x0 x1
    simp only [List.getElem?_toArray, List.getElem?_cons_zero] at s0 f0
    let W1 := W.setCell ⟨w.heap.size + 1 + 1 + 1 + 1, 0, none⟩ (.int .i64 ((pre.length : Nat) + 1))
    have hne : bx ≠ w.heap.size + 1 + 1 + 1 + 1 := fun e => by rw [e, hs] at hbx; simp at hbx
    have hs1 : W1.heap[w.heap.size + 1 + 1 + 1 + 1]? = some (.cells #[.int .i64 ((pre.length : Nat) + 1)] 3 (0, 0)) := by
      rw [show W1 = W.setCell ⟨w.heap.size + 1 + 1 + 1 + 1, 0, none⟩ (.int .i64 ((pre.length : Nat) + 1)) from rfl, Go.Joins.block_setCell hs]; rfl
    have oth : ∀ b, b ≠ w.heap.size + 1 + 1 + 1 + 1 → W1.heap[b]? = W.heap[b]? := fun b hb => Below.heap_setCell _ _ _ _ hb
    have hH1 : Holds (fun b => b = w.heap.size + 3 ∨ b = w.heap.size + 4) W W1 := Holds.setCell (Holds.refl _ W) ⟨w.heap.size + 1 + 1 + 1 + 1, 0, none⟩ (Or.inr rfl) _
    have hB1 : Below w.heap.size w W1 := hB.setCell (p := ⟨w.heap.size + 1 + 1 + 1 + 1, 0, none⟩) (by show w.heap.size ≤ w.heap.size + 1 + 1 + 1 + 1; omega) _
    have hG1 : NT W1 (· < w.heap.size) x (.agg #[.int .i64 x.kind, .slice p' x.args.length c']) := nstaysT (ntT_mk hG') ⟨hH1.1, fun b hb _ => oth b (by omega)⟩
    have HC := Lib.hid (HPF.out x _ d W1 hmem hG1 hB1)
    have HF1 := Lib.hid ((oth _ (by omega)).trans hf)
    have HMS := Lib.hid ((oth _ (by omega)).trans hms')
    have HMD := Lib.hid ((oth _ (by omega)).trans hmd')
    have HR1 := Lib.hid ((oth _ (by omega)).trans hr)
    have HS1 := Lib.hid hs1
    have HH1 := Lib.hid hH1
    have HB1 := Lib.hid hB1
    have HSO := Lib.hid hso
    have HP := Lib.hid hpre
    have HMEM := Lib.hid hmem
    clear hs1 hH1 hB1 hso hpre hs hr hf hms' hmd' hbx hB k0 k1 k2 k3 k4 hG' hG1 hbl hwl oth hmem
    gi_wp2_with fail
    refine ⟨trivial, ?_⟩
    rw [HPE.out]
    refine ⟨(fun h => by cases h), ?_⟩
    refine (CallsIn.inRound l (callsIn_wide.2 HC.out)).mono ?_
    rintro e W2 ⟨b, hb, rfl, hb2⟩
    have l1 := (Array.getElem?_eq_some_iff.1 HS1.out).1
    have l2 := (Array.getElem?_eq_some_iff.1 HR1.out).1
    have l3 := (Array.getElem?_eq_some_iff.1 HMS.out).1
    have l4 := (Array.getElem?_eq_some_iff.1 HMD.out).1
    have l5 := (Array.getElem?_eq_some_iff.1 HF1.out).1
    have s2 := cell_of_blk ((hb2.block _ l1).trans HS1.out) 0
    have r2 := cell_of_blk ((hb2.block _ l2).trans HR1.out) 0
    have rz := unfrozen_of_blk ((hb2.block _ l2).trans HR1.out) 0
    have m2 := cell_of_blk ((hb2.block _ l3).trans HMS.out) 0
    have n2 := cell_of_blk ((hb2.block _ l4).trans HMD.out) 0
    simp only [List.getElem?_toArray, List.getElem?_cons_zero] at s2 r2 m2 n2
    have HF2 := Lib.hid ((hb2.block _ l5).trans HF1.out)
    have HMS2 := Lib.hid ((hb2.block _ l3).trans HMS.out)
    have HMD2 := Lib.hid ((hb2.block _ l4).trans HMD.out)
    have HS2 := Lib.hid ((hb2.block _ l1).trans HS1.out)
    have HR2 := Lib.hid ((hb2.block _ l2).trans HR1.out)
    have hH2 : Holds (fun b => b = w.heap.size + 3 ∨ b = w.heap.size + 4) W W2 := HH1.out.trans (.of_below hb2)
    have hB2 : Below w.heap.size w W2 := HB1.out.trans (hb2.mono HB1.out.size)
    have finR : ¬ (ok x = true ∧ d ≤ md ∧ pre.length + 1 ≤ ms) → Holds (fun b => b = w.heap.size + 3 ∨ b = w.heap.size + 4) W (W2.setCell ⟨w.heap.size + 1 + 1 + 1, 0, none⟩ (.bool false)) ∧
        ((W2.setCell ⟨w.heap.size + 1 + 1 + 1, 0, none⟩ (.bool false)).cell? ⟨w.heap.size + 1 + 1 + 1, 0, none⟩ = some (.bool false) ∧ ¬ ((∀ e ∈ walkT t 1, ok e.1 = true ∧ e.2 ≤ md) ∧ t.nodes ≤ ms) ∧ Below w.heap.size w (W2.setCell ⟨w.heap.size + 1 + 1 + 1, 0, none⟩ (.bool false))) := fun hv =>
      ⟨hH2.setCell ⟨w.heap.size + 1 + 1 + 1, 0, none⟩ (Or.inl rfl) _, World.cell?_setCell_same' _ _ _ (by rw [r2]; rfl), SoFarT.not HP.out hv, hB2.setCell (p := ⟨w.heap.size + 1 + 1 + 1, 0, none⟩) (by show w.heap.size ≤ w.heap.size + 1 + 1 + 1; omega) _⟩
    have finN : ok x = true → d ≤ md → pre.length + 1 ≤ ms → Holds (fun b => b = w.heap.size + 3 ∨ b = w.heap.size + 4) W W2 ∧
        (W2.heap[w.heap.size]? = some (.cells #[.func (.func pf) #[] #[]] 76 (0, 0)) ∧ W2.heap[w.heap.size + 1]? = some (.cells #[.int .i64 (ms : Nat)] 3 (0, 0)) ∧ W2.heap[w.heap.size + 1 + 1]? = some (.cells #[.int .i64 (md : Nat)] 3 (0, 0)) ∧
        W2.heap[w.heap.size + 1 + 1 + 1]? = some (.cells #[.bool false] 4 (0, 0)) ∧ W2.heap[w.heap.size + 1 + 1 + 1 + 1]? = some (.cells #[.int .i64 ((pre ++ [(x, d)]).length : Nat)] 3 (0, 0)) ∧ SoFarT ok ms md (pre ++ [(x, d)]) ∧ Below w.heap.size w W2) := fun h1 h2 h3 =>
      ⟨hH2, HF2.out, HMS2.out, HMD2.out, HR2.out, by rw [HS2.out, List.length_append, List.length_singleton]; rfl, HSO.out.next h1 h2 h3, hB2⟩
    have FR := Lib.hid finR
    have FN := Lib.hid finN
    have HBB := Lib.hid hb
    clear finR finN hH2 hB2 hb2 hb s0 sz f0 x0 x1 l1 l2 l3 l4 l5
    have d0 : (0 : Int) ≤ (d : Int) := Int.natCast_nonneg _
    cases b with
    | true =>
      by_cases h30 : (ms : Int) < (pre.length : Int) + 1
      · gi_wp2_with fail
        exact (fun h => ⟨h.1, rfl, h.2⟩) (FR.out (fun h => by omega))
      · by_cases h8 : (md : Int) < (d : Int)
        · gi_wp2_with fail
          exact (fun h => ⟨h.1, rfl, h.2⟩) (FR.out (fun h => by omega))
        · gi_wp2_with fail
          exact FN.out HBB.out.symm (by omega) (by omega)
    | false =>
      gi_wp2_with fail
      exact (fun h => ⟨h.1, rfl, h.2⟩) (FR.out (fun h => by have := HBB.out; rw [h.1] at this; exact absurd this (by decide)))
  case done =>
    rintro D W hD ⟨_, _, _, hr, _, hso, hB⟩ hK
    have r0 := cell_of_blk hr 0
    have rz := unfrozen_of_blk hr 0
    simp only [List.getElem?_toArray, List.getElem?_cons_zero] at r0
    have HV := Lib.hid (show (∀ e ∈ walkT t 1, ok e.1 = true ∧ e.2 ≤ md) ∧ t.nodes ≤ ms from ⟨hso.1, by have := hso.2; rwa [walkT_length] at this⟩)
    have HB := Lib.hid hB
    have HK := Lib.hid hK
    have hK' : (W.setCell ⟨w.heap.size + 1 + 1 + 1, 0, none⟩ (.bool true)).heap[D]? = some (.deferred (some [])) := (Below.heap_setCell _ _ _ _ (by show D ≠ w.heap.size + 1 + 1 + 1; omega)).trans hK
    clear hso hB hr hK k0 k1 k2 k3 k4 hbl hwl
    gi_wp2_with fail
    refine ⟨by simp, .inl ⟨_, _, rfl, run_takeDeferred hK', ?_⟩⟩
    have hc := (World.cell?_of_block (a := ⟨w.heap.size + 1 + 1 + 1, 0, none⟩) (w' := (W.setCell ⟨w.heap.size + 1 + 1 + 1, 0, none⟩ (.bool true)).putObj D (.deferred none)) (World.putObj_heap_other (by show w.heap.size + 1 + 1 + 1 ≠ D; omega))).trans (World.cell?_setCell_same' W ⟨w.heap.size + 1 + 1 + 1, 0, none⟩ (.bool true) (by rw [r0]; rfl))
    refine ⟨.bool true, ?_, _, ⟨fun _ => HV.out, fun _ => rfl⟩, rfl, (HB.out.setCell (p := ⟨w.heap.size + 1 + 1 + 1, 0, none⟩) (by show w.heap.size ≤ w.heap.size + 1 + 1 + 1; omega) _).trans (below_putObj _ _ _ _ (by omega))⟩
    rw [results_cell1 rfl]
    go_simp
  case stop =>
    rintro D c pre W hD hpre ⟨rfl, hr, hv, hB⟩ hK
    have HB := Lib.hid hB
    have HV := Lib.hid hv
    clear hv hB k0 k1 k2 k3 k4 hbl hwl
    gi_wp2_with fail
    refine ⟨by simp, .inl ⟨_, _, rfl, run_takeDeferred hK, ?_⟩⟩
    have hc := (World.cell?_of_block (a := ⟨w.heap.size + 1 + 1 + 1, 0, none⟩) (w' := W.putObj D (.deferred none)) (World.putObj_heap_other (by show w.heap.size + 1 + 1 + 1 ≠ D; omega))).trans hr
    refine ⟨.bool false, ?_, _, ⟨fun h => by simp at h, fun h => absurd h HV.out⟩, rfl, HB.out.trans (below_putObj _ _ _ _ (by omega))⟩
    rw [results_cell1 rfl]
    go_simp
end Go.Proofs.YtfeijijeohfpgaaDoor
namespace Go.Proofs.YtfeijijeohfpgaaDoor
open Go Go.RowKit Go.Shelf
attribute [local go_sem] Oper.semAt_some
def okK (x : Ty) : Bool := if x.kind = 1 ∨ x.kind = 2 then x.args.length == 0 else if x.kind = 3 then x.args.length == 2 else x.kind == 4 && x.args.length == 1
theorem form_at (t : Ty) : t.form = (formS t.args && okK t) := by cases t; rw [Ty.form]; rfl
mutual
theorem form_walk : ∀ (t : Ty) (d : Nat), t.form = true ↔ ∀ e ∈ walkT t d, okK e.1 = true
  | .mk k ts, d => by
    have h := form_walkST ts (d + 1)
    rw [form_at, Bool.and_eq_true]
    simp only [Ty.args_mk, walkT, List.forall_mem_cons, h]
    exact And.comm
theorem form_walkST : ∀ (ts : List Ty) (d : Nat), formS ts = true ↔ ∀ e ∈ walkST ts d, okK e.1 = true
  | [], d => by simp [formS, walkST]
  | t :: ts, d => by
    have h1 := form_walkST ts d
    have h2 := form_walk t d
    simp only [formS, walkST, Bool.and_eq_true, List.forall_mem_append, h1, h2]
end
theorem valid_walk (t : Ty) : t.valid = true ↔ (∀ e ∈ walkT t 1, okK e.1 = true ∧ e.2 ≤ 8) ∧ t.nodes ≤ 30 := by
  have h1 := form_walk t 1
  have h2 : t.depth ≤ 8 ↔ ∀ e ∈ walkT t 1, e.2 ≤ 8 := by
    rw [← maxdT_le]
    have := maxdT_walk t 1
    omega
  simp only [Ty.valid, Bool.and_eq_true, decide_eq_true_eq]
  rw [h1, h2]
  constructor
  · rintro ⟨⟨a, b⟩, c⟩
    exact ⟨fun e he => ⟨c e he, b e he⟩, a⟩
  · rintro ⟨a, b⟩
    exact ⟨⟨b, fun e he => (a e he).2⟩, fun e he => (a e he).1⟩
theorem okK_kind (x : Ty) : okK x = true ↔ (x.kind = 1 ∧ x.args.length = 0) ∨ (x.kind = 2 ∧ x.args.length = 0) ∨ (x.kind = 3 ∧ x.args.length = 2) ∨ (x.kind = 4 ∧ x.args.length = 1) := by
  unfold okK
  by_cases h1 : x.kind = 1 ∨ x.kind = 2
  · rw [if_pos h1]; simp only [beq_iff_eq]; omega
  · rw [if_neg h1]
    by_cases h3 : x.kind = 3
    · rw [if_pos h3]; simp only [beq_iff_eq]; omega
    · rw [if_neg h3]; simp only [Bool.and_eq_true, beq_iff_eq]; omega

set_option maxRecDepth 100000 in
theorem proper_any {C : Nat → Prop} {x : Ty} {v : Value} {w : World} (h : TT w C x v) : Calls Tryd.prog 88 #[v] w (BoolRet (fun b => b = okK x) w) := by
  obtain ⟨s, rfl, hS⟩ := h
  obtain ⟨p, c, rfl⟩ := hS.form
  have HL := Lib.hid hS.len
  have HOK := Lib.hid (okK_kind x)
  clear hS
  go_enter Tryd.func88, Tryd.ntmps88
  go_wp2_with fail
  refine (kindOf_any x.kind p x.args.length c _ HL.out).mono ?_
  rintro e w1 ⟨rfl, hb⟩
  have HB := Lib.hid hb
  clear hb
  rcases kindV_cases x.kind x.args.length with ⟨hc, hk⟩ | ⟨hc, hk⟩ | ⟨hc, hk⟩ | ⟨hc, hk⟩ | ⟨hc, hk⟩
  · rw [hk]
    have HO1 := Lib.hid (HOK.out.2 (by omega))
    clear hc hk
    go_wp2_with fail
    go_ret
    exact ⟨_, HO1.out.symm, rfl, ((Below.refl w.heap.size w).alloc (Nat.le_refl _) _).trans (HB.out.mono (by simp))⟩
  · rw [hk]
    have HO1 := Lib.hid (HOK.out.2 (by omega))
    clear hc hk
    go_wp2_with fail
    go_ret
    exact ⟨_, HO1.out.symm, rfl, ((Below.refl w.heap.size w).alloc (Nat.le_refl _) _).trans (HB.out.mono (by simp))⟩
  · rw [hk]
    have HO1 := Lib.hid (HOK.out.2 (by omega))
    clear hc hk
    go_wp2_with fail
    go_ret
    exact ⟨_, HO1.out.symm, rfl, ((Below.refl w.heap.size w).alloc (Nat.le_refl _) _).trans (HB.out.mono (by simp))⟩
  · rw [hk]
    have HO1 := Lib.hid (HOK.out.2 (by omega))
    clear hc hk
    go_wp2_with fail
    go_ret
    exact ⟨_, HO1.out.symm, rfl, ((Below.refl w.heap.size w).alloc (Nat.le_refl _) _).trans (HB.out.mono (by simp))⟩
  · rw [hk]
    have HO1 := Lib.hid (show okK x = false by cases h : okK x with | false => rfl | true => have := HOK.out.1 h; omega)
    clear hc hk
    go_wp2_with fail
    go_ret
    exact ⟨_, HO1.out.symm, rfl, ((Below.refl w.heap.size w).alloc (Nat.le_refl _) _).trans (HB.out.mono (by simp))⟩

set_option maxRecDepth 100000 in
theorem validI_any {C : Nat → Prop} {t : Ty} {v : Value} {w : World} (h : TT w C t v) (hn : nodesS t.args ≤ 2097152) :
    Calls Tryd.prog 69 #[v] w (BoolRet (fun r => r = t.valid) w) := by
  have hn' : t.nodes ≤ 2097153 := by have := t.nodes_eq; omega
  obtain ⟨s, rfl, hS⟩ := h
  obtain ⟨p, c, rfl⟩ := hS.form
  have HT := Lib.hid (fun (A : Array Value) (T : TypeId) => tnT_any (hS.stays (.of_below ((Below.refl w.heap.size w).alloc (Nat.le_refl _) (.cells A T)))))
  clear hS
  go_enter Tryd.func69, Tryd.ntmps69
  go_wp2_with fail
  refine (HT.out _ _).mono ?_
  rintro e w1 ⟨Bt, Bp, rfl, hI, hb, -⟩
  have HI := Lib.hid hI
  have HB := Lib.hid hb
  clear hI hb
  go_wp2_with fail
  refine (withinT_any HI.out hn' 88 okK 30 8 (enters_of Tryd.func88 (by kernel_rfl) rfl) (fun x v d W _ hx _ => proper_any hx)).mono ?_
  rintro e w2 ⟨r, hr, rfl, hb2⟩
  have HR := Lib.hid (show r = t.valid by
    have h1 := valid_walk t
    rw [← hr] at h1
    cases r <;> cases hv : t.valid <;> simp_all)
  have HB2 := Lib.hid hb2
  clear hr hb2
  go_wp2_with fail
  go_ret
  exact ⟨_, HR.out, rfl, (((Below.refl w.heap.size w).alloc (Nat.le_refl _) _).trans (HB.out.mono (by simp))).trans (HB2.out.mono (by have := HB.out.size; simp at this; omega))⟩
end Go.Proofs.YtfeijijeohfpgaaDoor
