/-
  The walk of the law that sizes and depths of terms are those of their parts, and that the drawn terms are judged as the model judges them (gentermslaw.py writes this text).
-/
import Derived.Test.YtnciibngcaajgaaDoorH11
import Derived.Test.YtnciibngcaajgaaDoorH15
import Derived.Test.YtnciibngcaajgaaDoorH12
import Derived.Test.YtnciibngcaajgaaDoorH17
import Derived.Test.YtnciibngcaajgaaDoorH16
namespace Go.Proofs.YtnciibngcaajgaaDoor
open Go Go.RowKit

set_option maxRecDepth 100000 in
set_option maxHeartbeats 400000 in
theorem lawTm_big (a : Option Addr) (len cap : Nat) (w : World) (hl : len ≤ 9223372036854775807) (h : 1048576 < (len : Int)) :
    Calls Tryd.prog 3 #[.slice a len cap] w fun e w' => e = .returned (.bool true) ∧ Below w.heap.size w w' := by
  go_enter Tryd.func3, Tryd.ntmps3
  go_wp2_with fail
  refine (big_yes a len cap w hl h).mono ?_
  rintro e w' ⟨rfl, rfl⟩
  go_wp2_with fail
  go_ret
  exact ⟨rfl, Below.refl _ _⟩
theorem keep27 {w0 W W' : World} {p0 p1 p2 p3 p4 p5 p6 p7 p8 p9 p10 p11 p12 p13 p14 p15 p16 p17 p18 p19 p20 p21 p22 p23 p24 p25 p26 : Addr} {v0 v1 v2 v3 v4 v5 v6 v7 v8 v9 v10 v11 v12 v13 v14 v15 v16 v17 v18 v19 v20 v21 v22 v23 v24 v25 v26 : Value} (hb : Below W.heap.size W W') (h : Below w0.heap.size w0 W ∧ W.cell? p0 = some v0 ∧ W.cell? p1 = some v1 ∧ W.cell? p2 = some v2 ∧ W.cell? p3 = some v3 ∧ W.cell? p4 = some v4 ∧ W.cell? p5 = some v5 ∧ W.cell? p6 = some v6 ∧ W.cell? p7 = some v7 ∧ W.cell? p8 = some v8 ∧ W.cell? p9 = some v9 ∧ W.cell? p10 = some v10 ∧ W.cell? p11 = some v11 ∧ W.cell? p12 = some v12 ∧ W.cell? p13 = some v13 ∧ W.cell? p14 = some v14 ∧ W.cell? p15 = some v15 ∧ W.cell? p16 = some v16 ∧ W.cell? p17 = some v17 ∧ W.cell? p18 = some v18 ∧ W.cell? p19 = some v19 ∧ W.cell? p20 = some v20 ∧ W.cell? p21 = some v21 ∧ W.cell? p22 = some v22 ∧ W.cell? p23 = some v23 ∧ W.cell? p24 = some v24 ∧ W.cell? p25 = some v25 ∧ W.cell? p26 = some v26) :
    Below w0.heap.size w0 W' ∧ W'.cell? p0 = some v0 ∧ W'.cell? p1 = some v1 ∧ W'.cell? p2 = some v2 ∧ W'.cell? p3 = some v3 ∧ W'.cell? p4 = some v4 ∧ W'.cell? p5 = some v5 ∧ W'.cell? p6 = some v6 ∧ W'.cell? p7 = some v7 ∧ W'.cell? p8 = some v8 ∧ W'.cell? p9 = some v9 ∧ W'.cell? p10 = some v10 ∧ W'.cell? p11 = some v11 ∧ W'.cell? p12 = some v12 ∧ W'.cell? p13 = some v13 ∧ W'.cell? p14 = some v14 ∧ W'.cell? p15 = some v15 ∧ W'.cell? p16 = some v16 ∧ W'.cell? p17 = some v17 ∧ W'.cell? p18 = some v18 ∧ W'.cell? p19 = some v19 ∧ W'.cell? p20 = some v20 ∧ W'.cell? p21 = some v21 ∧ W'.cell? p22 = some v22 ∧ W'.cell? p23 = some v23 ∧ W'.cell? p24 = some v24 ∧ W'.cell? p25 = some v25 ∧ W'.cell? p26 = some v26 := by
  obtain ⟨h, h0, h1, h2, h3, h4, h5, h6, h7, h8, h9, h10, h11, h12, h13, h14, h15, h16, h17, h18, h19, h20, h21, h22, h23, h24, h25, h26⟩ := h
  exact ⟨h.trans (hb.mono h.size), keepN' hb h0, keepN' hb h1, keepN' hb h2, keepN' hb h3, keepN' hb h4, keepN' hb h5, keepN' hb h6, keepN' hb h7, keepN' hb h8, keepN' hb h9, keepN' hb h10, keepN' hb h11, keepN' hb h12, keepN' hb h13, keepN' hb h14, keepN' hb h15, keepN' hb h16, keepN' hb h17, keepN' hb h18, keepN' hb h19, keepN' hb h20, keepN' hb h21, keepN' hb h22, keepN' hb h23, keepN' hb h24, keepN' hb h25, keepN' hb h26⟩

set_option maxRecDepth 100000 in
set_option maxHeartbeats 6000000 in
theorem lawTm_small (a : Option Addr) (len cap : Nat) (w : World) (hl : len ≤ 1048576) (hv : Bytes w (.slice a len cap)) (hka : KA w) :
    Calls Tryd.prog 3 #[.slice a len cap] w fun e w' => e = .returned (.bool true) ∧ Below w.heap.size w w' := by
  have HV := Lib.hid hv
  have HK := Lib.hid hka
  clear hv hka
  go_enter Tryd.func3, Tryd.ntmps3
  go_wp2_with fail
  refine (big_no a len cap w (by omega)).mono ?_
  rintro e w' ⟨rfl, rfl⟩
  go_wp2_with fail
  refine (drawV_any _ w HV.out hl).mono ?_
  rintro e w1 ⟨v1, t, rfl, hn, ⟨tp, tc, rp, rc, p, c, rfl, hT⟩, hb1⟩
  have hba := al_below w1 (.cells (tmC t tp tc rp rc p c) 29)
  obtain ⟨wB, hwB⟩ : ∃ wB, w1.alloc (.cells (tmC t tp tc rp rc p c) 29) = wB := ⟨_, rfl⟩
  have hbx := Bx9.new w1 t tp tc rp rc p c 29
  rw [hwB] at hba hbx
  have hTB := (hT.stays (.of_below hba)).mono (C' := fun _ => True) (fun _ _ _ => trivial)
  have HF := Lib.hid (fun (W : World) (hW : Below wB.heap.size wB W) => hbx.keep hW)
  have HP := Lib.hid (fun (j : Nat) (hj : j < t.args.length) => tm_part hTB.args j hj)
  have HT := Lib.hid (fun (W : World) (hW : Below wB.heap.size wB W) => (⟨_, _, _, _, _, _, rfl, hTB.stays (.of_below hW)⟩ : TM W (fun _ => True) t (tmV t tp tc rp rc p c)))
  have HBB := Lib.hid (hb1.trans (hba.mono hb1.size))
  have HWB := Lib.hid hwB
  have hwe := t.wt_eq
  have hlen := wtS_ge t.args
  have hla : t.args.length ≤ 420 := by omega
  have hnm := nodesM_wt t.args
  have hna : nodesM t.args ≤ 420 := by omega
  have hwt : t.wt ≤ 1048576 := by omega
  have HWE := Lib.hid hwe
  have HWT := Lib.hid hn
  clear hba hbx hT hTB hb1 hwB hwe hlen hnm hn
  go_wp2_with fail
  go_loopw [4, 5, 6] (fun s4 s5 s6 wr => ∃ (k : Nat) (A D : Int), k ≤ t.args.length ∧ s4 = .int .i64 A ∧ s5 = .int .i64 D ∧ s6 = .int .i64 k ∧ Hid (A = ((1 + nodesM (t.args.take k) : Nat) : Int)) ∧ Hid (D = ((depthM (t.args.take k) : Nat) : Int)) ∧ Below wB.heap.size wB wr) (fun _ _ i _ => t.args.length - (intOf i).toNat)
  case atStart => rw [HWB.out]; exact ⟨0, 1, 0, Nat.zero_le _, rfl, rfl, rfl, Lib.hid rfl, Lib.hid rfl, Below.refl _ _⟩
  case round =>
    obtain ⟨k, A, D, hk, rfl, rfl, rfl, HA, HD, hbr⟩ := hrel
    have hA1 : 1 ≤ A ∧ A ≤ 421 := by have := HA.out; have := nodesM_take_le t.args k; omega
    have hD1 : 0 ≤ D ∧ D ≤ 421 := by have := HD.out; have := depthM_nodes (t.args.take k); have := nodesM_take_le t.args k; omega
    obtain ⟨hA1, hA2⟩ := hA1
    obtain ⟨hD1, hD2⟩ := hD1
    have f8 := (HF.out wr hbr).args
    have HBR := Lib.hid hbr
    clear hbr
    by_cases hlk : k < t.args.length
    · have hpart := HP.out k hlk
      obtain ⟨x, hx⟩ : ∃ x, x = t.args[k] := ⟨_, rfl⟩
      have hxn := nodesM_take t.args k hlk
      have hxd := depthM_take t.args k hlk
      have hxw := wtS_at t.args k hlk
      rw [← hx] at hpart hxn hxd hxw
      obtain ⟨b, o, tp2, tc2, rp2, rc2, p2, c2, rfl, -, -, h9, hPx⟩ := hpart
      have HQ := Lib.hid (fun (W : World) (hW : Below wB.heap.size wB W) => h9 W (.of_below hW))
      have HTX := Lib.hid (fun (W : World) (hW : Below wB.heap.size wB W) => (⟨_, _, _, _, _, _, rfl, hPx.stays (.of_below hW)⟩ : TM W (fun _ => True) x (tmV x tp2 tc2 rp2 rc2 p2 c2)))
      obtain ⟨r0, r1, r2, r3, r4, r5, r6, r7, r8⟩ := HQ.out wr HBR.out
      have hxl := nodesM_take_le t.args (k + 1)
      have hxs : x.wt ≤ 1048576 := by have := HWE.out; have := HWT.out; omega
      have hxm := x.depth_nodes
      have hx2 : x.nodes ≤ 420 := by omega
      have hx3 := x.nodes_eq
      have HXN := Lib.hid hxn
      have HXD := Lib.hid hxd
      have hx1 : 1 ≤ x.nodes := by omega
      have HX := Lib.hid hx
      clear h9 hPx hx hxw hx3
      go_wp2_with fail
      refine (sizeMI_any (HTX.out _ HBR.out) hxs).mono ?_
      rintro e w2 ⟨r, hr, rfl, hb2⟩
      have hr1 : 1 ≤ r ∧ r ≤ 420 := by omega
      obtain ⟨hr1, hr2⟩ := hr1
      have hB2 := HBR.out.trans (hb2.mono HBR.out.size)
      have HB2 := Lib.hid hB2
      have HR := Lib.hid hr
      clear f8 r0 r1 r2 r3 r4 r5 r6 r7 r8 hr
      have f8 := (HF.out w2 hB2).args
      obtain ⟨r0, r1, r2, r3, r4, r5, r6, r7, r8⟩ := HQ.out w2 hB2
      clear hb2 hB2 hxn hxd
      go_wp2_with fail
      refine (depthMI_any (HTX.out _ HB2.out) hxs).mono ?_
      rintro e w3 ⟨d, hd, rfl, hb3⟩
      have hd1 : 0 ≤ d ∧ d ≤ 420 := by omega
      obtain ⟨hd1, hd2⟩ := hd1
      have hB3 := HB2.out.trans (hb3.mono HB2.out.size)
      have HB3 := Lib.hid hB3
      have HDD := Lib.hid hd
      clear f8 r0 r1 r2 r3 r4 r5 r6 r7 r8 hd
      have f8 := (HF.out w3 hB3).args
      obtain ⟨r0, r1, r2, r3, r4, r5, r6, r7, r8⟩ := HQ.out w3 hB3
      clear hb3 hB3
      by_cases hgt : d > D
      · go_wp2_with fail
        refine (depthMI_any (HTX.out _ HB3.out) hxs).mono ?_
        rintro e w4 ⟨d', hd', rfl, hb4⟩
        obtain rfl : d' = d := hd'.trans HDD.out.symm
        have HB4 := Lib.hid (HB3.out.trans (hb4.mono HB3.out.size))
        clear hb4 hd' f8 r0 r1 r2 r3 r4 r5 r6 r7 r8
        go_wp2_with fail
        go_roundw
        case rel => exact ⟨k + 1, A + r, d', by omega, by go_num, rfl, by go_num, Lib.hid (by have := HA.out; have := HR.out; have := HXN.out; omega), Lib.hid (by have := HD.out; have := HDD.out; have := HXD.out; omega), HB4.out⟩
        case measure => simp [intOf]; omega
      · go_wp2_with fail
        go_roundw
        case rel => exact ⟨k + 1, A + r, D, by omega, by go_num, rfl, by go_num, Lib.hid (by have := HA.out; have := HR.out; have := HXN.out; omega), Lib.hid (by have := HD.out; have := HDD.out; have := HXD.out; omega), HB3.out⟩
        case measure => simp [intOf]; omega
    · obtain rfl : k = t.args.length := by omega
      have HA' : Hid (A = ((t.nodes : Nat) : Int)) := Lib.hid (by have := HA.out; rw [List.take_length] at this; have := t.nodes_eq; omega)
      have HD' : Hid (D + 1 = ((t.depth : Nat) : Int)) := Lib.hid (by have := HD.out; rw [List.take_length] at this; have := t.depth_eq; omega)
      clear HA HD
      go_wp2_with fail
      refine (drawEqualM_any _ wr (HV.out.below (HBB.out.trans (HBR.out.mono HBB.out.size))) hl).mono ?_
      rintro e w2 ⟨v2, x2, t2, u2, rfl, ht2, hu2, ⟨tp7, tc7, rp7, rc7, p7, c7, rfl, hT2⟩, ⟨tp8, tc8, rp8, rc8, p8, c8, rfl, hU2⟩, hb2⟩
      have hb20 := HBR.out.trans (hb2.mono HBR.out.size)
      obtain ⟨wC, hwC, hsC, hbC, k7, k8⟩ := box_new2 w2 (tmC t2 tp7 tc7 rp7 rc7 p7 c7) (tmC u2 tp8 tc8 rp8 rc8 p8 c8) 29 29
      have hb2C := hb20.trans (hbC.mono hb20.size)
      have hbwC := HBB.out.trans (hb2C.mono HBB.out.size)
      have HOP := Lib.hid (drawOp_any _ wC (HV.out.below hbwC) hl)
      have HWC := Lib.hid hwC
      have HBC := Lib.hid hb2C
      have HK7 := Lib.hid (Bx9.of k7)
      have HK8 := Lib.hid (Bx9.of k8)
      have HT2c := Lib.hid (hT2.stays (.of_below hbC))
      have HU2c := Lib.hid (hU2.stays (.of_below hbC))
      have hwt2 : t2.wt ≤ 1048576 := by omega
      have hwu2 : u2.wt ≤ 1048576 := by omega
      clear f8 hb2 hb20 hbC hb2C hbwC k7 k8 hT2 hU2 hwC hsC ht2 hu2 HP
      go_wp2_with fail
      rw [HWC.out]
      refine HOP.out.mono ?_
      rintro e w3 ⟨s, rfl, -, hb3⟩
      have hb3B := HBC.out.trans (hb3.mono HBC.out.size)
      have HKA := Lib.hid (fun (W : World) (hW : Below w3.heap.size w3 W) => HK.out.below ((HBB.out.trans (hb3B.mono HBB.out.size)).trans (hW.mono (HBB.out.trans (hb3B.mono HBB.out.size)).size)))
      have HTt := Lib.hid (fun (W : World) (hW : Below w3.heap.size w3 W) => HT.out W (hb3B.trans (hW.mono hb3B.size)))
      have HT2 := Lib.hid (fun (W : World) (hW : Below w3.heap.size w3 W) => (⟨_, _, _, _, _, _, rfl, (HT2c.out.stays (.of_below hb3)).stays (.of_below hW)⟩ : TM W _ t2 (tmV t2 tp7 tc7 rp7 rc7 p7 c7)))
      have HU2 := Lib.hid (fun (W : World) (hW : Below w3.heap.size w3 W) => (⟨_, _, _, _, _, _, rfl, (HU2c.out.stays (.of_below hb3)).stays (.of_below hW)⟩ : TM W _ u2 (tmV u2 tp8 tc8 rp8 rc8 p8 c8)))
      have HBD := Lib.hid (HBB.out.trans (hb3B.mono HBB.out.size))
      have HZ : Hid (Below w3.heap.size w3 w3.drew ∧ w3.drew.cell? ⟨w1.heap.size, 0, none⟩ = some (.int .i64 t.kind) ∧ w3.drew.cell? ⟨w1.heap.size, 1, none⟩ = some (.string t.name) ∧ w3.drew.cell? ⟨w1.heap.size, 2, none⟩ = some (.string t.other) ∧ w3.drew.cell? ⟨w1.heap.size, 3, none⟩ = some (.int .i64 t.n) ∧ w3.drew.cell? ⟨w1.heap.size, 4, none⟩ = some (.int .i64 t.ty.kind) ∧ w3.drew.cell? ⟨w1.heap.size, 5, none⟩ = some (.slice tp t.ty.args.length tc) ∧ w3.drew.cell? ⟨w1.heap.size, 6, none⟩ = some (.int .i64 t.res.kind) ∧ w3.drew.cell? ⟨w1.heap.size, 7, none⟩ = some (.slice rp t.res.args.length rc) ∧ w3.drew.cell? ⟨w1.heap.size, 8, none⟩ = some (.slice p t.args.length c) ∧ w3.drew.cell? ⟨w2.heap.size, 0, none⟩ = some (.int .i64 t2.kind) ∧ w3.drew.cell? ⟨w2.heap.size, 1, none⟩ = some (.string t2.name) ∧ w3.drew.cell? ⟨w2.heap.size, 2, none⟩ = some (.string t2.other) ∧ w3.drew.cell? ⟨w2.heap.size, 3, none⟩ = some (.int .i64 t2.n) ∧ w3.drew.cell? ⟨w2.heap.size, 4, none⟩ = some (.int .i64 t2.ty.kind) ∧ w3.drew.cell? ⟨w2.heap.size, 5, none⟩ = some (.slice tp7 t2.ty.args.length tc7) ∧ w3.drew.cell? ⟨w2.heap.size, 6, none⟩ = some (.int .i64 t2.res.kind) ∧ w3.drew.cell? ⟨w2.heap.size, 7, none⟩ = some (.slice rp7 t2.res.args.length rc7) ∧ w3.drew.cell? ⟨w2.heap.size, 8, none⟩ = some (.slice p7 t2.args.length c7) ∧ w3.drew.cell? ⟨w2.heap.size + 1, 0, none⟩ = some (.int .i64 u2.kind) ∧ w3.drew.cell? ⟨w2.heap.size + 1, 1, none⟩ = some (.string u2.name) ∧ w3.drew.cell? ⟨w2.heap.size + 1, 2, none⟩ = some (.string u2.other) ∧ w3.drew.cell? ⟨w2.heap.size + 1, 3, none⟩ = some (.int .i64 u2.n) ∧ w3.drew.cell? ⟨w2.heap.size + 1, 4, none⟩ = some (.int .i64 u2.ty.kind) ∧ w3.drew.cell? ⟨w2.heap.size + 1, 5, none⟩ = some (.slice tp8 u2.ty.args.length tc8) ∧ w3.drew.cell? ⟨w2.heap.size + 1, 6, none⟩ = some (.int .i64 u2.res.kind) ∧ w3.drew.cell? ⟨w2.heap.size + 1, 7, none⟩ = some (.slice rp8 u2.res.args.length rc8) ∧ w3.drew.cell? ⟨w2.heap.size + 1, 8, none⟩ = some (.slice p8 u2.args.length c8)) := Lib.hid (by
        obtain ⟨a0, a1, a2, a3, a4, a5, a6, a7, a8⟩ := HF.out w3 hb3B
        obtain ⟨b0, b1, b2, b3, b4, b5, b6, b7, b8⟩ := HK7.out.keep hb3
        obtain ⟨d0, d1, d2, d3, d4, d5, d6, d7, d8⟩ := HK8.out.keep hb3
        exact ⟨(Below.refl _ w3).drew, a0, a1, a2, a3, a4, a5, a6, a7, a8, b0, b1, b2, b3, b4, b5, b6, b7, b8, d0, d1, d2, d3, d4, d5, d6, d7, d8⟩)
      clear hb3 hb3B HF HT HBC HK7 HK8 HT2c HU2c HWC HOP
      have a3 : IntKind.i64.wrap (D + 1) = D + 1 := IntWalk.i64_in _ (by omega)
      have a4 : wrap64 (D + 1) = D + 1 := by unfold wrap64; omega
      go_wp2_with fail
      go_region_held3 (fun w' => Below w3.heap.size w3 w' ∧ w'.cell? ⟨w1.heap.size, 0, none⟩ = some (.int .i64 t.kind) ∧ w'.cell? ⟨w1.heap.size, 1, none⟩ = some (.string t.name) ∧ w'.cell? ⟨w1.heap.size, 2, none⟩ = some (.string t.other) ∧ w'.cell? ⟨w1.heap.size, 3, none⟩ = some (.int .i64 t.n) ∧ w'.cell? ⟨w1.heap.size, 4, none⟩ = some (.int .i64 t.ty.kind) ∧ w'.cell? ⟨w1.heap.size, 5, none⟩ = some (.slice tp t.ty.args.length tc) ∧ w'.cell? ⟨w1.heap.size, 6, none⟩ = some (.int .i64 t.res.kind) ∧ w'.cell? ⟨w1.heap.size, 7, none⟩ = some (.slice rp t.res.args.length rc) ∧ w'.cell? ⟨w1.heap.size, 8, none⟩ = some (.slice p t.args.length c) ∧ w'.cell? ⟨w2.heap.size, 0, none⟩ = some (.int .i64 t2.kind) ∧ w'.cell? ⟨w2.heap.size, 1, none⟩ = some (.string t2.name) ∧ w'.cell? ⟨w2.heap.size, 2, none⟩ = some (.string t2.other) ∧ w'.cell? ⟨w2.heap.size, 3, none⟩ = some (.int .i64 t2.n) ∧ w'.cell? ⟨w2.heap.size, 4, none⟩ = some (.int .i64 t2.ty.kind) ∧ w'.cell? ⟨w2.heap.size, 5, none⟩ = some (.slice tp7 t2.ty.args.length tc7) ∧ w'.cell? ⟨w2.heap.size, 6, none⟩ = some (.int .i64 t2.res.kind) ∧ w'.cell? ⟨w2.heap.size, 7, none⟩ = some (.slice rp7 t2.res.args.length rc7) ∧ w'.cell? ⟨w2.heap.size, 8, none⟩ = some (.slice p7 t2.args.length c7) ∧ w'.cell? ⟨w2.heap.size + 1, 0, none⟩ = some (.int .i64 u2.kind) ∧ w'.cell? ⟨w2.heap.size + 1, 1, none⟩ = some (.string u2.name) ∧ w'.cell? ⟨w2.heap.size + 1, 2, none⟩ = some (.string u2.other) ∧ w'.cell? ⟨w2.heap.size + 1, 3, none⟩ = some (.int .i64 u2.n) ∧ w'.cell? ⟨w2.heap.size + 1, 4, none⟩ = some (.int .i64 u2.ty.kind) ∧ w'.cell? ⟨w2.heap.size + 1, 5, none⟩ = some (.slice tp8 u2.ty.args.length tc8) ∧ w'.cell? ⟨w2.heap.size + 1, 6, none⟩ = some (.int .i64 u2.res.kind) ∧ w'.cell? ⟨w2.heap.size + 1, 7, none⟩ = some (.slice rp8 u2.res.args.length rc8) ∧ w'.cell? ⟨w2.heap.size + 1, 8, none⟩ = some (.slice p8 u2.args.length c8))
          (first
            | with_reducible exact HZ.out
            | with_reducible exact keep27 hb12 (by assumption)
            | with_reducible exact keep27 hb11 (by assumption)
            | with_reducible exact keep27 hb10 (by assumption)
            | with_reducible exact keep27 hb9 (by assumption)
            | with_reducible exact keep27 hb8 (by assumption)
            | with_reducible exact keep27 hb7 (by assumption)
            | with_reducible exact keep27 hb6 (by assumption)
            | with_reducible exact keep27 hb5 (by assumption)
            | assumption
            | (go_keep; done))
          (first
            | (go_at_call 8; refine (sizeMI_any (HTt.out _ (And.left (by assumption))) hwt).mono ?_; rintro e w5 ⟨r1, hr, rfl, hb5⟩; have hr := hr.trans HA'.out.symm; rw [hr]; clear hr)
            | (go_at_call 9; refine (depthMI_any (HTt.out _ (And.left (by assumption))) hwt).mono ?_; rintro e w6 ⟨r2, hr, rfl, hb6⟩; obtain rfl : r2 = D + 1 := by have := HD'.out; omega)
            | (go_at_call 12; refine (validTermI_any (HKA.out _ (And.left (by assumption))) (HTt.out _ (And.left (by assumption))) hwt).mono ?_; rintro e w7 ⟨b1, hb1, rfl, hb7⟩)
            | (go_at_call 13; refine (validM_any (HTt.out _ (And.left (by assumption))) hwt).mono ?_; rintro e w8 ⟨b2, hb2, rfl, hb8⟩; obtain rfl : b2 = b1 := Bool.eq_iff_iff.2 (hb2.trans hb1.symm))
            | (go_at_call 14; refine (isTermI_any (HKA.out _ (And.left (by assumption))) (HTt.out _ (And.left (by assumption))) hwt).mono ?_; rintro e w9 ⟨b3, hb3, rfl, hb9⟩)
            | (go_at_call 15; refine (isT_at (HTt.out _ (And.left (by assumption))) hwt).mono ?_; rintro e w10 ⟨b4, hb4, rfl, hb10⟩; obtain rfl : b4 = b3 := Bool.eq_iff_iff.2 (hb4.trans hb3.symm))
            | (go_at_call 16; refine (eqMI_any (HT2.out _ (And.left (by assumption))) (HU2.out _ (And.left (by assumption))) hwt2 hwu2).mono ?_; rintro e w11 ⟨b5, hb5', rfl, hb11⟩)
            | (go_at_call 17; refine (eqSpM_at (HT2.out _ (And.left (by assumption))) (HU2.out _ (And.left (by assumption)))).mono ?_; rintro e w12 ⟨b6, hb6', rfl, hb12⟩; obtain rfl : b6 = b5 := Bool.eq_iff_iff.2 (hb6'.trans hb5'.symm))
            | (go_at_call 18; refine (opArI_any s _).mono ?_; rintro e w13 ⟨rfl, rfl⟩)
            | (go_at_call 19; refine (opArS_any s _).mono ?_; rintro e w14 ⟨rfl, rfl⟩))
      rename_i hH
      have HFI := Lib.hid (HBD.out.trans (hH.1.mono HBD.out.size))
      clear hH
      go_wp2_with fail
      go_ret
      exact ⟨rfl, HFI.out⟩
theorem lawTm_any (a : Option Addr) (len cap : Nat) (w : World) (hl : len ≤ 9223372036854775807) (hv : Bytes w (.slice a len cap)) (hka : KA w) :
    Calls Tryd.prog 3 #[.slice a len cap] w fun e w' => e = .returned (.bool true) ∧ Below w.heap.size w w' := by
  by_cases h : len ≤ 1048576
  · exact lawTm_small a len cap w h hv hka
  · exact lawTm_big a len cap w hl (by omega)
#print axioms lawTm_any
end Go.Proofs.YtnciibngcaajgaaDoor

