/-
  The walk of the law that sizes and depths of types are those of their parts, and erased types are plain: as far as the sums over the parts.
-/
import Derived.Test.YtjobmgbchpoheaaDrawTypes2
import Derived.Test.YtjobmgbchpoheaaErFacts
import Derived.Test.YtjobmgbchpoheaaSizesT
import Derived.Test.YtjobmgbchpoheaaValidT
import Derived.Test.YtjobmgbchpoheaaPlainT
import Derived.Test.YtjobmgbchpoheaaSpecEq
import Derived.Test.YtjobmgbchpoheaaAid
import Derived.Test.YtjobmgbchpoheaaEqT
import Derived.Test.YtjobmgbchpoheaaBig
namespace Go.Proofs.Ytjobmgbchpoheaa
open Go Go.RowKit

set_option maxRecDepth 100000 in
set_option maxHeartbeats 400000 in
theorem lawTy_big (a : Option Addr) (len cap : Nat) (w : World) (hl : len ≤ 9223372036854775807) (h : 1048576 < (len : Int)) :
    Calls Try.prog 3 #[.slice a len cap] w fun e w' => e = .returned (.bool true) ∧ Below w.heap.size w w' := by
  go_enter Try.func3, Try.ntmps3
  go_wp2_with fail
  refine (big_yes a len cap w hl h).mono ?_
  rintro e w' ⟨rfl, rfl⟩
  go_wp2_with fail
  go_ret
  exact ⟨rfl, Below.refl _ _⟩

/-- One part of a slice of types: where it lies. -/
theorem TS.part {W : World} {C : Nat → Prop} {ts : List Ty} {p : Option Addr} {n c : Nat} (h : TS W C ts (.slice p n c)) {j : Nat} {x : Ty} (hj : ts[j]? = some x) :
    ∃ (b o : Nat) (p' : Option Addr) (c' : Nat), p = some ⟨b, o, none⟩ ∧ W.cell? ⟨b, o + j * 2, none⟩ = some (.int .i64 x.kind) ∧ W.cell? ⟨b, o + j * 2 + 1, none⟩ = some (.slice p' x.args.length c') ∧ TS W C x.args (.slice p' x.args.length c') := by
  cases h with
  | nil => simp at hj
  | cons S h1 hc hm hC hb hk hs hr =>
    have hx := hr j x hj
    obtain ⟨p', c', hf⟩ := hx.form
    exact ⟨_, _, p', c', rfl, hk j x hj, hf ▸ hs j x hj, hf ▸ hx⟩
theorem last9 {a b c d e f g h i : Prop} (x : a ∧ b ∧ c ∧ d ∧ e ∧ f ∧ g ∧ h ∧ i) : i := x.2.2.2.2.2.2.2.2
theorem keepS9 {w0 W w1 : World} {p1 p2 p3 p4 p5 p6 p7 p8 : Addr} {v1 v2 v3 v4 v5 v6 v7 v8 : Value} (hb : Below W.heap.size W w1)
    (h : W.cell? p1 = some v1 ∧ W.cell? p2 = some v2 ∧ W.cell? p3 = some v3 ∧ W.cell? p4 = some v4 ∧ W.cell? p5 = some v5 ∧ W.cell? p6 = some v6 ∧ W.cell? p7 = some v7 ∧ W.cell? p8 = some v8 ∧ Below w0.heap.size w0 W) :
    w1.cell? p1 = some v1 ∧ w1.cell? p2 = some v2 ∧ w1.cell? p3 = some v3 ∧ w1.cell? p4 = some v4 ∧ w1.cell? p5 = some v5 ∧ w1.cell? p6 = some v6 ∧ w1.cell? p7 = some v7 ∧ w1.cell? p8 = some v8 ∧ Below w0.heap.size w0 w1 := by
  have k : ∀ {p : Addr} {v : Value}, W.cell? p = some v → w1.cell? p = some v := fun {p v} hp => (hb.cell (World.block_lt_of_cell? W _ hp)).trans hp
  obtain ⟨h1, h2, h3, h4, h5, h6, h7, h8, h9⟩ := h
  exact ⟨k h1, k h2, k h3, k h4, k h5, k h6, k h7, k h8, h9.trans (hb.mono h9.size)⟩
theorem keepC2 {W w1 : World} {p1 p2 : Addr} {v1 v2 : Value} (h : W.cell? p1 = some v1 ∧ W.cell? p2 = some v2) (hb1 : Below W.heap.size W w1) : w1.cell? p1 = some v1 ∧ w1.cell? p2 = some v2 := keep2 hb1 h

set_option maxRecDepth 100000 in
set_option maxHeartbeats 6000000 in
theorem lawTy_small (a : Option Addr) (len cap : Nat) (w : World) (hl : len ≤ 1048576) (hv : Bytes w (.slice a len cap)) :
    Calls Try.prog 3 #[.slice a len cap] w fun e w' => e = .returned (.bool true) ∧ Below w.heap.size w w' := by
  have HV := Lib.hid hv
  clear hv
  go_enter Try.func3, Try.ntmps3
  go_wp2_with fail
  refine (big_no a len cap w (by omega)).mono ?_
  rintro e w' ⟨rfl, rfl⟩
  go_wp2_with fail
  refine (drawValid_any _ w HV.out hl).mono ?_
  rintro e w1 ⟨v1, t, rfl, hn, ⟨s, rfl, hS⟩, hb1⟩
  obtain ⟨p, c, rfl⟩ := hS.form
  have hba := alloc_below w1 (.cells #[.int .i64 t.kind, .slice p t.args.length c] 26)
  obtain ⟨wB, hwB⟩ : ∃ wB, w1.alloc (.cells #[.int .i64 t.kind, .slice p t.args.length c] 26) = wB := ⟨_, rfl⟩
  have hbx := Bx.new w1 t.kind (.slice p t.args.length c) 26
  rw [hwB] at hba hbx
  have hTB := (hS.keep hba).mono (C' := fun _ => True) (fun _ _ _ => trivial)
  have HF := Lib.hid (fun (W : World) (hW : Below wB.heap.size wB W) => keepC2 hbx hW)
  have HP := Lib.hid (fun (j : Nat) (x : Ty) (hj : t.args[j]? = some x) => hTB.part hj)
  have HT := Lib.hid (fun (W : World) (hW : Below wB.heap.size wB W) => (⟨_, rfl, hTB.keep hW⟩ : TT W (fun _ => True) t (.agg #[.int .i64 t.kind, .slice p t.args.length c])))
  have HBB := Lib.hid (hb1.trans (hba.mono hb1.size))
  have HWB := Lib.hid hwB
  have hlen := nodesS_ge t.args
  have hna : 1 + nodesS t.args ≤ 200 := by rw [← t.nodes_eq]; exact hn
  have hda := depthS_nodes t.args
  clear hba hbx hS hTB hb1 hwB hn
  go_wp2_with fail
  go_loopw [4, 5, 6] (fun s4 s5 s6 wr => ∃ (k : Nat) (A D : Int), k ≤ t.args.length ∧ s4 = .int .i64 A ∧ s5 = .int .i64 D ∧ s6 = .int .i64 k ∧ Hid (A = ((1 + nodesS (t.args.take k) : Nat) : Int)) ∧ Hid (D = ((depthS (t.args.take k) : Nat) : Int)) ∧ Below wB.heap.size wB wr) (fun _ _ i _ => t.args.length - (intOf i).toNat)
  case atStart => rw [HWB.out]; exact ⟨0, 1, 0, Nat.zero_le _, rfl, rfl, rfl, Lib.hid rfl, Lib.hid rfl, Below.refl _ _⟩
  case round =>
    obtain ⟨k, A, D, hk, rfl, rfl, rfl, HA, HD, hbr⟩ := hrel
    have hA1 : 1 ≤ A ∧ A ≤ 200 := by have := HA.out; have := nodesS_take_le t.args k; omega
    have hD1 : 0 ≤ D ∧ D ≤ 200 := by have := HD.out; have := depthS_nodes (t.args.take k); have := nodesS_take_le t.args k; omega
    obtain ⟨hA1, hA2⟩ := hA1
    obtain ⟨hD1, hD2⟩ := hD1
    obtain ⟨f0, f1⟩ := HF.out wr hbr
    have HBR := Lib.hid hbr
    clear hbr
    by_cases hlk : k < t.args.length
    · obtain ⟨x, hx⟩ : ∃ x, x = t.args[k] := ⟨_, rfl⟩
      obtain ⟨b, o, p', c', rfl, q0, q1, hTS⟩ := HP.out k x (by rw [hx]; exact List.getElem?_eq_getElem hlk)
      have HQ := Lib.hid (fun (W : World) (hW : Below wB.heap.size wB W) => keepC2 (And.intro q0 q1) hW)
      have HTX := Lib.hid (fun (W : World) (hW : Below wB.heap.size wB W) => (⟨_, rfl, hTS.keep hW⟩ : TT W (fun _ => True) x (.agg #[.int .i64 x.kind, .slice p' x.args.length c'])))
      obtain ⟨r0, r1⟩ := HQ.out wr HBR.out
      have hxn : nodesS (t.args.take (k + 1)) = nodesS (t.args.take k) + (1 + nodesS x.args) := by rw [hx]; exact nodesS_take t.args k hlk
      have hxd : depthS (t.args.take (k + 1)) = max (depthS (t.args.take k)) (1 + depthS x.args) := by rw [hx, ← depth_at]; exact depthS_take_next t.args k hlk
      have hxl := nodesS_take_le t.args (k + 1)
      have hxs : nodesS x.args ≤ 1048576 := by omega
      have hxm := depthS_nodes x.args
      have hx2 : nodesS x.args ≤ 199 := by omega
      have HXN := Lib.hid hxn
      have HXD := Lib.hid hxd
      clear q0 q1 hTS hx
      go_wp2_with fail
      refine (sizeI_any (HTX.out _ HBR.out) (Nat.le_trans hxs (by decide))).mono ?_
      rintro e w2 ⟨r, hr, rfl, hb2⟩
      have hr1 : 1 ≤ r ∧ r ≤ 200 := by omega
      obtain ⟨hr1, hr2⟩ := hr1
      have hB2 := HBR.out.trans (hb2.mono HBR.out.size)
      have HB2 := Lib.hid hB2
      have HR := Lib.hid hr
      clear f0 f1 r0 r1 hr
      obtain ⟨f0, f1⟩ := HF.out w2 hB2
      obtain ⟨r0, r1⟩ := HQ.out w2 hB2
      clear hb2 hB2 hxn hxd
      go_wp2_with fail
      refine (depthI_any (HTX.out _ HB2.out) (Nat.le_trans hxs (by decide))).mono ?_
      rintro e w3 ⟨d, hd, rfl, hb3⟩
      have hd1 : 1 ≤ d ∧ d ≤ 200 := by omega
      obtain ⟨hd1, hd2⟩ := hd1
      have hB3 := HB2.out.trans (hb3.mono HB2.out.size)
      have HB3 := Lib.hid hB3
      have HDD := Lib.hid hd
      clear f0 f1 r0 r1 hd
      obtain ⟨f0, f1⟩ := HF.out w3 hB3
      obtain ⟨r0, r1⟩ := HQ.out w3 hB3
      clear hb3 hB3
      by_cases hgt : d > D
      · go_wp2_with fail
        refine (depthI_any (HTX.out _ HB3.out) (Nat.le_trans hxs (by decide))).mono ?_
        rintro e w4 ⟨d', hd', rfl, hb4⟩
        obtain rfl : d' = d := hd'.trans HDD.out.symm
        have HB4 := Lib.hid (HB3.out.trans (hb4.mono HB3.out.size))
        clear hb4 hd' f0 f1 r0 r1
        go_wp2_with fail
        go_roundw
        case rel => exact ⟨k + 1, A + r, d', by omega, by go_num, rfl, by go_num, Lib.hid (by have := HA.out; have := HR.out; have := HXN.out; omega), Lib.hid (by have := HD.out; have := HDD.out; have := HXD.out; omega), HB4.out⟩
        case measure => simp [intOf]; omega
      · go_wp2_with fail
        go_roundw
        case rel => exact ⟨k + 1, A + r, D, by omega, by go_num, rfl, by go_num, Lib.hid (by have := HA.out; have := HR.out; have := HXN.out; omega), Lib.hid (by have := HD.out; have := HDD.out; have := HXD.out; omega), HB3.out⟩
        case measure => simp [intOf]; omega
    · obtain rfl : k = t.args.length := by omega
      have hA : A = ((1 + nodesS t.args : Nat) : Int) := by have := HA.out; rwa [List.take_length] at this
      have hD : D = ((depthS t.args : Nat) : Int) := by have := HD.out; rwa [List.take_length] at this
      have HA' := Lib.hid hA
      have HD' := Lib.hid hD
      clear HA HD hA hD
      go_wp2_with fail
      refine (drawEqual_any _ wr (HV.out.below (HBB.out.trans (HBR.out.mono HBB.out.size))) hl).mono ?_
      rintro e w2 ⟨v2, x2, t2, u2, rfl, ht2, hu2, ⟨s2, rfl, hS2⟩, ⟨s3, rfl, hS3⟩, hb2⟩
      obtain ⟨p2, c2, rfl⟩ := hS2.form
      obtain ⟨p3, c3, rfl⟩ := hS3.form
      have hb20 := HBR.out.trans (hb2.mono HBR.out.size)
      obtain ⟨wC, hwC⟩ : ∃ wC, (w2.alloc (.cells #[.int .i64 t2.kind, .slice p2 t2.args.length c2] 26)).alloc (.cells #[.int .i64 u2.kind, .slice p3 u2.args.length c3] 26) = wC := ⟨_, rfl⟩
      have hbC : Below w2.heap.size w2 wC := by rw [← hwC]; exact (alloc_below w2 _).trans ((alloc_below _ _).mono (by simp))
      have hx7 : Bx wC w2.heap.size t2.kind (.slice p2 t2.args.length c2) := by rw [← hwC]; exact (Bx.new w2 t2.kind (.slice p2 t2.args.length c2) 26).keep (alloc_below _ _)
      have hx8 : Bx wC (w2.heap.size + 1) u2.kind (.slice p3 u2.args.length c3) := by
        have := Bx.new (w2.alloc (.cells #[.int .i64 t2.kind, .slice p2 t2.args.length c2] 26)) u2.kind (.slice p3 u2.args.length c3) 26
        rw [World.size_alloc, hwC] at this
        exact this
      have hb2C := hb20.trans (hbC.mono hb20.size)
      obtain ⟨f0', f1'⟩ := HF.out w2 hb20
      have g0 := fun o o' => al_cell (al_cell f0' o) o'
      have g1 := fun o o' => al_cell (al_cell f1' o) o'
      have hTT := HT.out wC hb2C
      rw [← hwC] at hTT
      have HER := Lib.hid (eraseI_any hTT (by omega))
      have H7 := Lib.hid hx7
      have H8 := Lib.hid hx8
      have HWC := Lib.hid hwC
      have HBC := Lib.hid hb2C
      have HS2 := Lib.hid (hS2.keep hbC)
      have HS3 := Lib.hid (hS3.keep hbC)
      have hq2 : nodesS t2.args ≤ 200 := by rw [t2.nodes_eq] at ht2; omega
      clear f0 f1 f0' f1' hb2 hb20 hbC hx7 hx8 hb2C hTT hS2 hS3 hwC ht2 hu2 HP
      go_wp2_with fail
      refine HER.out.mono ?_
      rintro e w3 ⟨v3, rfl, ⟨s4, rfl, hO⟩, hb3⟩
      rw [HWC.out] at hb3
      obtain ⟨p4, c4, rfl⟩ := hO.form
      have hba := alloc_below w3 (.cells #[.int .i64 t.erase.kind, .slice p4 t.erase.args.length c4] 26)
      obtain ⟨wD, hwD⟩ : ∃ wD, w3.alloc (.cells #[.int .i64 t.erase.kind, .slice p4 t.erase.args.length c4] 26) = wD := ⟨_, rfl⟩
      have hx9 := Bx.new w3 t.erase.kind (.slice p4 t.erase.args.length c4) 26
      rw [hwD] at hba hx9
      have hbD := hb3.trans (hba.mono hb3.size)
      have hbBD := HBC.out.trans (hbD.mono HBC.out.size)
      have hz9 : (wD.cell? ⟨w1.heap.size, 0, none⟩ = some (.int .i64 t.kind) ∧ wD.cell? ⟨w1.heap.size, 1, none⟩ = some (.slice p t.args.length c) ∧ wD.cell? ⟨w2.heap.size, 0, none⟩ = some (.int .i64 t2.kind) ∧ wD.cell? ⟨w2.heap.size, 1, none⟩ = some (.slice p2 t2.args.length c2) ∧
          wD.cell? ⟨w2.heap.size + 1, 0, none⟩ = some (.int .i64 u2.kind) ∧ wD.cell? ⟨w2.heap.size + 1, 1, none⟩ = some (.slice p3 u2.args.length c3) ∧ wD.cell? ⟨w3.heap.size, 0, none⟩ = some (.int .i64 t.erase.kind) ∧ wD.cell? ⟨w3.heap.size, 1, none⟩ = some (.slice p4 t.erase.args.length c4) ∧ Below wD.heap.size wD wD) :=
        have k1 := HF.out wD hbBD
        have k7 := H7.out.keep hbD
        have k8 := H8.out.keep hbD
        ⟨k1.1, k1.2, k7.1, k7.2, k8.1, k8.2, hx9.1, hx9.2, Below.refl _ _⟩
      have HTt := Lib.hid (fun (W : World) (hW : Below wD.heap.size wD W) => HT.out W (hbBD.trans (hW.mono hbBD.size)))
      have HT2 := Lib.hid (fun (W : World) (hW : Below wD.heap.size wD W) => (⟨_, rfl, (HS2.out.keep hbD).keep hW⟩ : TT W _ t2 (.agg #[.int .i64 t2.kind, .slice p2 t2.args.length c2])))
      have HU2 := Lib.hid (fun (W : World) (hW : Below wD.heap.size wD W) => (⟨_, rfl, (HS3.out.keep hbD).keep hW⟩ : TT W _ u2 (.agg #[.int .i64 u2.kind, .slice p3 u2.args.length c3])))
      have HE := Lib.hid (fun (W : World) (hW : Below wD.heap.size wD W) => (⟨_, rfl, (hO.ts.keep hba).keep hW⟩ : TT W _ t.erase (.agg #[.int .i64 t.erase.kind, .slice p4 t.erase.args.length c4])))
      have HBD := Lib.hid (HBB.out.trans (hbBD.mono HBB.out.size))
      have HWD := Lib.hid hwD
      have HZ := Lib.hid hz9
      clear g0 g1 hO hb3 hba hwD hx9 hbD hbBD hz9 HF HT H7 H8 HS2 HS3 HBC HER HWC
      go_wp2_with fail
      rw [HWD.out]
      have hna2 : nodesS t.args ≤ 1048576 := by omega
      have hq3 : nodesS t2.args ≤ 1048576 := by omega
      have hne2 : nodesS t.erase.args ≤ 1048576 := Nat.le_trans (erase_args_nodes t) hna2
      have a3 : IntKind.i64.wrap (D + 1) = D + 1 := IntWalk.i64_in _ (by omega)
      have a4 : wrap64 (D + 1) = D + 1 := by unfold wrap64; omega
      go_cut [90] from 43 to 119 (fun b90 wx => b90 = .bool false ∧ wx.cell? ⟨w1.heap.size, 0, none⟩ = some (.int .i64 t.kind) ∧ wx.cell? ⟨w1.heap.size, 1, none⟩ = some (.slice p t.args.length c) ∧ wx.cell? ⟨w2.heap.size, 0, none⟩ = some (.int .i64 t2.kind) ∧ wx.cell? ⟨w2.heap.size, 1, none⟩ = some (.slice p2 t2.args.length c2) ∧
          wx.cell? ⟨w2.heap.size + 1, 0, none⟩ = some (.int .i64 u2.kind) ∧ wx.cell? ⟨w2.heap.size + 1, 1, none⟩ = some (.slice p3 u2.args.length c3) ∧ wx.cell? ⟨w3.heap.size, 0, none⟩ = some (.int .i64 t.erase.kind) ∧ wx.cell? ⟨w3.heap.size, 1, none⟩ = some (.slice p4 t.erase.args.length c4) ∧ Below wD.heap.size wD wx)
      case first =>
        go_region_held3 (fun w' => w'.cell? ⟨w1.heap.size, 0, none⟩ = some (.int .i64 t.kind) ∧ w'.cell? ⟨w1.heap.size, 1, none⟩ = some (.slice p t.args.length c) ∧ w'.cell? ⟨w2.heap.size, 0, none⟩ = some (.int .i64 t2.kind) ∧ w'.cell? ⟨w2.heap.size, 1, none⟩ = some (.slice p2 t2.args.length c2) ∧
            w'.cell? ⟨w2.heap.size + 1, 0, none⟩ = some (.int .i64 u2.kind) ∧ w'.cell? ⟨w2.heap.size + 1, 1, none⟩ = some (.slice p3 u2.args.length c3) ∧ w'.cell? ⟨w3.heap.size, 0, none⟩ = some (.int .i64 t.erase.kind) ∧ w'.cell? ⟨w3.heap.size, 1, none⟩ = some (.slice p4 t.erase.args.length c4) ∧ Below wD.heap.size wD w')
          (first
            | (go_keep; done)
            | exact keepS9 (Below.refl _ _).drew HZ.out
            | exact keepS9 hb5 (by assumption)
            | exact keepS9 hb6 (by assumption)
            | exact keepS9 hb7 (by assumption)
            | exact keepS9 hb8 (by assumption)
            | exact keepS9 hb9 (by assumption)
            | exact keepS9 hb10 (by assumption)
            | exact keepS9 hb11 (by assumption)
            | exact keepS9 hb12 (by assumption)
            | exact keepS9 hb13 (by assumption)
            | exact keepS9 hb14 (by assumption))
          (first
            | (go_at_call 7; refine (sizeI_any (HTt.out _ (last9 (by assumption))) (Nat.le_trans hna2 (by decide))).mono ?_; rintro e w5 ⟨r1, hr, rfl, hb5⟩; have hr := hr.trans HA'.out.symm; rw [hr]; clear hr)
            | (go_at_call 8; refine (depthI_any (HTt.out _ (last9 (by assumption))) (Nat.le_trans hna2 (by decide))).mono ?_; rintro e w6 ⟨r2, hr, rfl, hb6⟩; obtain rfl : r2 = D + 1 := by have := HD'.out; omega)
            | (go_at_call 11; refine (validI_any (HTt.out _ (last9 (by assumption))) (Nat.le_trans hna2 (by decide))).mono ?_; rintro e w7 ⟨b1, rfl, rfl, hb7⟩)
            | (go_at_call 12; refine (valid_any (HTt.out _ (last9 (by assumption))) (by omega)).mono ?_; rintro e w8 ⟨b2, rfl, rfl, hb8⟩)
            | (go_at_call 13; refine (eqI_any (HT2.out _ (last9 (by assumption))) (HU2.out _ (last9 (by assumption))) (Nat.le_trans hq3 (by decide))).mono ?_; rintro e w9 ⟨b3, hb3, rfl, hb9⟩)
            | (go_at_call 14; refine (eqSpT_any (HT2.out _ (last9 (by assumption))) (HU2.out _ (last9 (by assumption)))).mono ?_; rintro e w10 ⟨b4, hb4, rfl, hb10⟩; obtain rfl : b4 = b3 := Bool.eq_iff_iff.2 (hb4.trans hb3.symm))
            | (go_at_call 15; refine (baseI_any (HTt.out _ (last9 (by assumption)))).mono ?_; rintro e w11 ⟨b5, rfl, rfl, hb11⟩)
            | (go_at_call 16; refine (base_any (HTt.out _ (last9 (by assumption)))).mono ?_; rintro e w12 ⟨b6, rfl, rfl, hb12⟩)
            | (go_at_call 17; refine (plainI_any (HTt.out _ (last9 (by assumption))) (Nat.le_trans hna2 (by decide))).mono ?_; rintro e w13 ⟨b7, rfl, rfl, hb13⟩)
            | (go_at_call 18; refine (plain_any (HTt.out _ (last9 (by assumption))) (by omega)).mono ?_; rintro e w14 ⟨b8, rfl, rfl, hb14⟩))
        rename_i hH
        go_wp2_with fail
        go_meet
        case rel => exact ⟨rfl, hH⟩
      obtain ⟨rfl, hH⟩ := hcut
      have HS14 := Lib.hid hH
      have HEI := Lib.hid (fun (W : World) (hW : Below wD.heap.size wD W) => erase_idem t ▸ eraseI_any (HE.out W hW) hne2)
      clear hH a3 a4
      have hcases : (Hid (t.valid = true) ∧ Hid (t.erase.plain = true) ∧ Hid (t.plain = true) ∧ Hid (t.erase = t)) ∨ (Hid (t.valid = true) ∧ Hid (t.erase.plain = true) ∧ Hid (t.plain = false)) ∨ (Hid (t.valid = false) ∧ Hid (t.plain = false)) := by
        by_cases h1 : t.valid = true
        · by_cases h2 : t.plain = true
          · exact Or.inl ⟨Lib.hid h1, Lib.hid (erase_plain t h1), Lib.hid h2, Lib.hid (plain_erase t h2)⟩
          · exact Or.inr (Or.inl ⟨Lib.hid h1, Lib.hid (erase_plain t h1), Lib.hid (by simpa using h2)⟩)
        · have h1 : t.valid = false := by simpa using h1
          exact Or.inr (Or.inr ⟨Lib.hid h1, Lib.hid (by unfold Ty.plain; rw [h1]; rfl)⟩)
      go_wp2_with fail
      rcases hcases with ⟨hv, hep, hp, hes⟩ | ⟨hv, hep, hp⟩ | ⟨hv, hp⟩
      · have HVI := Lib.hid (fun (W : World) (hW : Below wD.heap.size wD W) => hv.out ▸ validI_any (HTt.out W hW) (Nat.le_trans hna2 (by decide)))
        have HPI := Lib.hid (fun (W : World) (hW : Below wD.heap.size wD W) => hp.out ▸ plainI_any (HTt.out W hW) (Nat.le_trans hna2 (by decide)))
        have HEPI := Lib.hid (fun (W : World) (hW : Below wD.heap.size wD W) => hep.out ▸ plainI_any (HE.out W hW) (Nat.le_trans hne2 (by decide)))
        have HXI := Lib.hid (fun (W : World) (hW : Below wD.heap.size wD W) => (eqI_any (HE.out W hW) (HTt.out W hW) (Nat.le_trans hne2 (by decide))).mono (fun e w' ⟨b, hb, he, hw⟩ => (⟨b, hb.2 hes.out, he, hw⟩ : BoolRet (fun r => r = true) W e w')))
        first
        | go_region_held3 (fun w' => w'.cell? ⟨w1.heap.size, 0, none⟩ = some (.int .i64 t.kind) ∧ w'.cell? ⟨w1.heap.size, 1, none⟩ = some (.slice p t.args.length c) ∧ w'.cell? ⟨w2.heap.size, 0, none⟩ = some (.int .i64 t2.kind) ∧ w'.cell? ⟨w2.heap.size, 1, none⟩ = some (.slice p2 t2.args.length c2) ∧
          w'.cell? ⟨w2.heap.size + 1, 0, none⟩ = some (.int .i64 u2.kind) ∧ w'.cell? ⟨w2.heap.size + 1, 1, none⟩ = some (.slice p3 u2.args.length c3) ∧ w'.cell? ⟨w3.heap.size, 0, none⟩ = some (.int .i64 t.erase.kind) ∧ w'.cell? ⟨w3.heap.size, 1, none⟩ = some (.slice p4 t.erase.args.length c4) ∧ Below wD.heap.size wD w')
          (first
            | (go_keep; done)
            | exact keepS9 (Below.refl _ _).drew HS14.out
            | exact keepS9 hb15 (by assumption)
            | exact keepS9 hb16 (by assumption)
            | exact keepS9 hb17 (by assumption)
            | exact keepS9 hb18 (by assumption)
            | exact keepS9 hb19 (by assumption)
            | exact keepS9 hb20 (by assumption)
            | exact keepS9 hb21 (by assumption)
            | exact keepS9 hb22 (by assumption))
          (first
            | (go_at_call 19; refine (eraseSpT_any (HTt.out _ (last9 (by assumption))) hna2).mono ?_; rintro e w15 ⟨v15, rfl, ⟨s15, rfl, hs15⟩, hb15⟩; obtain ⟨p15, c15, rfl⟩ := hs15.form)
            | (go_at_call_of 13 (Value.agg #[.int .i64 t.erase.kind, .slice p15 t.erase.args.length c15]); refine (eqI_any (HE.out _ (last9 (by assumption))) (⟨_, rfl, hs15⟩ : TT w15 _ t.erase (.agg #[.int .i64 t.erase.kind, .slice p15 t.erase.args.length c15])) (Nat.le_trans hne2 (by decide))).mono ?_; rintro e w16 ⟨b16, hb, rfl, hb16⟩; obtain rfl : b16 = true := hb.2 rfl)
            | (go_at_call 10; refine (HEI.out _ (last9 (by assumption))).mono ?_; rintro e w17 ⟨v17, rfl, ⟨s17, rfl, hs17⟩, hb17⟩; obtain ⟨p17, c17, rfl⟩ := hs17.form)
            | (go_at_call_of 13 (Value.agg #[.int .i64 t.erase.kind, .slice p17 t.erase.args.length c17]); refine (eqI_any (⟨_, rfl, hs17.ts⟩ : TT w17 _ t.erase (.agg #[.int .i64 t.erase.kind, .slice p17 t.erase.args.length c17])) (HE.out _ (last9 (by assumption))) (Nat.le_trans hne2 (by decide))).mono ?_; rintro e w18 ⟨b18, hb, rfl, hb18⟩; obtain rfl : b18 = true := hb.2 rfl)
            | (go_at_call 11; refine (HVI.out _ (last9 (by assumption))).mono ?_; rintro e w19 ⟨b19, rfl, rfl, hb19⟩)
            | (go_at_call_of 17 (Value.agg #[.int .i64 t.erase.kind, .slice p4 t.erase.args.length c4]); refine (HEPI.out _ (last9 (by assumption))).mono ?_; rintro e w20 ⟨b20, rfl, rfl, hb20⟩)
            | (go_at_call_of 17 (Value.agg #[.int .i64 t.kind, .slice p t.args.length c]); refine (HPI.out _ (last9 (by assumption))).mono ?_; rintro e w21 ⟨b21, rfl, rfl, hb21⟩)
            | (go_at_call_of 13 (Value.agg #[.int .i64 t.kind, .slice p t.args.length c]); refine (HXI.out _ (last9 (by assumption))).mono ?_; rintro e w22 ⟨b22, rfl, rfl, hb22⟩))
        | fail
        go_wp2_with fail
        go_ret
        exact ⟨rfl, HBD.out.trans (Below.mono (last9 (by assumption) : Below wD.heap.size wD _) HBD.out.size)⟩
      · have HVI := Lib.hid (fun (W : World) (hW : Below wD.heap.size wD W) => hv.out ▸ validI_any (HTt.out W hW) (Nat.le_trans hna2 (by decide)))
        have HPI := Lib.hid (fun (W : World) (hW : Below wD.heap.size wD W) => hp.out ▸ plainI_any (HTt.out W hW) (Nat.le_trans hna2 (by decide)))
        have HEPI := Lib.hid (fun (W : World) (hW : Below wD.heap.size wD W) => hep.out ▸ plainI_any (HE.out W hW) (Nat.le_trans hne2 (by decide)))
        refine wp_region_noPanic ?_
        refine wp_region_held_drew (S := (fun w' => w'.cell? ⟨w1.heap.size, 0, none⟩ = some (.int .i64 t.kind) ∧ w'.cell? ⟨w1.heap.size, 1, none⟩ = some (.slice p t.args.length c) ∧ w'.cell? ⟨w2.heap.size, 0, none⟩ = some (.int .i64 t2.kind) ∧ w'.cell? ⟨w2.heap.size, 1, none⟩ = some (.slice p2 t2.args.length c2) ∧
          w'.cell? ⟨w2.heap.size + 1, 0, none⟩ = some (.int .i64 u2.kind) ∧ w'.cell? ⟨w2.heap.size + 1, 1, none⟩ = some (.slice p3 u2.args.length c3) ∧ w'.cell? ⟨w3.heap.size, 0, none⟩ = some (.int .i64 t.erase.kind) ∧ w'.cell? ⟨w3.heap.size, 1, none⟩ = some (.slice p4 t.erase.args.length c4) ∧ Below wD.heap.size wD w')) (by kernel_rfl) ?_ (fun hHeld => ?_)
        · try dsimp only
          exact keepS9 (Below.refl _ _).drew HS14.out
        refine wpAnyH_take (i := 0) (oi := ({ dst := some 91, op := Op.load 26 (Operand.tmp 9), type := 26, pos := "laws.go:220", after := #[], guard := none } : Oper)) (v := ?_) rfl (by kernel_rfl) (by kernel_rfl) (by kernel_rfl) (fun _ _ _ h => h) (Or.inl ⟨by rfl, ?_⟩) (by assumption) ?_
        rotate_left
        · intro w hSw
          try dsimp only at hSw
          go_simp
          try with_reducible rfl
        try simp only [Act.put, List.setIfInBounds_toArray, List.set_cons_zero, List.set_cons_succ]
        refine wpAnyH_take (i := 1) (oi := ({ dst := some 92, op := Op.load 26 (Operand.tmp 3), type := 26, pos := "laws.go:220", after := #[], guard := none } : Oper)) (v := ?_) rfl (by kernel_rfl) (by kernel_rfl) (by kernel_rfl) (fun _ _ _ h => h) (Or.inl ⟨by rfl, ?_⟩) (by assumption) ?_
        rotate_left
        · intro w hSw
          try dsimp only at hSw
          go_simp
          try with_reducible rfl
        try simp only [Act.put, List.setIfInBounds_toArray, List.set_cons_zero, List.set_cons_succ]
        refine wpAnyH_ready (rs := [2]) (by kernel_rfl) (by simp) ?_
        refine AllReadyH.cons (o := ({ dst := some 93, op := Op.call { callee := Callee.value (Operand.func 19), args := #[Operand.tmp 92], argTypes := #[26] }, type := 26, pos := "laws.go:220", after := #[{ on := 1, ground := Ground.data }], guard := none } : Oper)) rfl (fun K hK => ?_) AllReadyH.nil
        go_simp
        go_at_call 19; refine (eraseSpT_any (HTt.out _ (last9 (by assumption))) hna2).mono ?_; rintro e w15 ⟨v15, rfl, ⟨s15, rfl, hs15⟩, hb15⟩; obtain ⟨p15, c15, rfl⟩ := hs15.form
        refine hK.out _ _ ?_ (fun hHeld15 => ?_)
        · try dsimp only
          exact keepS9 hb15 (by assumption)
        clear hK K
        try simp only [Act.put, List.setIfInBounds_toArray, List.set_cons_zero, List.set_cons_succ]
        refine wpAnyH_ready (rs := [3]) (by kernel_rfl) (by simp) ?_
        refine AllReadyH.cons (o := ({ dst := some 94, op := Op.call { callee := Callee.value (Operand.func 13), args := #[Operand.tmp 91, Operand.tmp 93], argTypes := #[26, 26] }, type := 4, pos := "laws.go:220", after := #[{ on := 0, ground := Ground.data }, { on := 2, ground := Ground.data }, { on := 2, ground := Ground.chain }], guard := none } : Oper)) rfl (fun K hK => ?_) AllReadyH.nil
        go_simp
        go_at_call_of 13 (Value.agg #[.int .i64 t.erase.kind, .slice p15 t.erase.args.length c15]); refine (eqI_any (HE.out _ (last9 (by assumption))) (⟨_, rfl, hs15⟩ : TT w15 _ t.erase (.agg #[.int .i64 t.erase.kind, .slice p15 t.erase.args.length c15])) (Nat.le_trans hne2 (by decide))).mono ?_; rintro e w16 ⟨b16, hb, rfl, hb16⟩; obtain rfl : b16 = true := hb.2 rfl
        refine hK.out _ _ ?_ (fun hHeld16 => ?_)
        · try dsimp only
          exact keepS9 hb16 (by assumption)
        clear hK K
        try simp only [Act.put, List.setIfInBounds_toArray, List.set_cons_zero, List.set_cons_succ]
        refine wpAnyH_take (i := 4) (oi := ({ dst := some 95, op := Op.move (Operand.tmp 94), type := 4, pos := "laws.go:220", after := #[{ on := 3, ground := Ground.data }, { on := 3, ground := Ground.chain }], guard := none } : Oper)) (v := ?_) rfl (by kernel_rfl) (by kernel_rfl) (by kernel_rfl) (fun _ _ _ h => h) (Or.inl ⟨by rfl, ?_⟩) (by assumption) ?_
        rotate_left
        · intro w hSw
          try dsimp only at hSw
          go_simp
          try with_reducible rfl
        try simp only [Act.put, List.setIfInBounds_toArray, List.set_cons_zero, List.set_cons_succ]
        refine wpAnyH_take (i := 5) (oi := ({ dst := some 96, op := Op.load 26 (Operand.tmp 9), type := 26, pos := "laws.go:220", after := #[{ on := 4, ground := Ground.guard }], guard := some (4, true) } : Oper)) (v := ?_) rfl (by kernel_rfl) (by kernel_rfl) (by kernel_rfl) (fun _ _ _ h => h) (Or.inl ⟨by rfl, ?_⟩) (by assumption) ?_
        rotate_left
        · intro w hSw
          try dsimp only at hSw
          go_simp
          try with_reducible rfl
        try simp only [Act.put, List.setIfInBounds_toArray, List.set_cons_zero, List.set_cons_succ]
        refine wpAnyH_take (i := 7) (oi := ({ dst := some 98, op := Op.load 26 (Operand.tmp 9), type := 26, pos := "laws.go:220", after := #[{ on := 4, ground := Ground.guard }], guard := some (4, true) } : Oper)) (v := ?_) rfl (by kernel_rfl) (by kernel_rfl) (by kernel_rfl) (fun _ _ _ h => h) (Or.inl ⟨by rfl, ?_⟩) (by assumption) ?_
        rotate_left
        · intro w hSw
          try dsimp only at hSw
          go_simp
          try with_reducible rfl
        try simp only [Act.put, List.setIfInBounds_toArray, List.set_cons_zero, List.set_cons_succ]
        refine wpAnyH_ready (rs := [6]) (by kernel_rfl) (by simp) ?_
        refine AllReadyH.cons (o := ({ dst := some 97, op := Op.call { callee := Callee.value (Operand.func 10), args := #[Operand.tmp 96], argTypes := #[26] }, type := 26, pos := "laws.go:220", after := #[{ on := 5, ground := Ground.data }, { on := 4, ground := Ground.chain }, { on := 4, ground := Ground.guard }], guard := some (4, true) } : Oper)) rfl (fun K hK => ?_) AllReadyH.nil
        go_simp
        go_at_call 10; refine (HEI.out _ (last9 (by assumption))).mono ?_; rintro e w17 ⟨v17, rfl, ⟨s17, rfl, hs17⟩, hb17⟩; obtain ⟨p17, c17, rfl⟩ := hs17.form
        refine hK.out _ _ ?_ (fun hHeld17 => ?_)
        · try dsimp only
          exact keepS9 hb17 (by assumption)
        clear hK K
        try simp only [Act.put, List.setIfInBounds_toArray, List.set_cons_zero, List.set_cons_succ]
        refine wpAnyH_ready (rs := [8]) (by kernel_rfl) (by simp) ?_
        refine AllReadyH.cons (o := ({ dst := some 99, op := Op.call { callee := Callee.value (Operand.func 13), args := #[Operand.tmp 97, Operand.tmp 98], argTypes := #[26, 26] }, type := 4, pos := "laws.go:220", after := #[{ on := 6, ground := Ground.data }, { on := 7, ground := Ground.data }, { on := 6, ground := Ground.chain }, { on := 4, ground := Ground.guard }], guard := some (4, true) } : Oper)) rfl (fun K hK => ?_) AllReadyH.nil
        go_simp
        go_at_call_of 13 (Value.agg #[.int .i64 t.erase.kind, .slice p17 t.erase.args.length c17]); refine (eqI_any (⟨_, rfl, hs17.ts⟩ : TT w17 _ t.erase (.agg #[.int .i64 t.erase.kind, .slice p17 t.erase.args.length c17])) (HE.out _ (last9 (by assumption))) (Nat.le_trans hne2 (by decide))).mono ?_; rintro e w18 ⟨b18, hb, rfl, hb18⟩; obtain rfl : b18 = true := hb.2 rfl
        refine hK.out _ _ ?_ (fun hHeld18 => ?_)
        · try dsimp only
          exact keepS9 hb18 (by assumption)
        clear hK K
        try simp only [Act.put, List.setIfInBounds_toArray, List.set_cons_zero, List.set_cons_succ]
        refine wpAnyH_take (i := 9) (oi := ({ dst := some 100, op := Op.pick (Operand.tmp 95) (Operand.tmp 99) (Operand.const (Value.bool false)), type := 4, pos := "laws.go:220", after := #[{ on := 4, ground := Ground.data }, { on := 8, ground := Ground.data }], guard := none } : Oper)) (v := ?_) rfl (by kernel_rfl) (by kernel_rfl) (by kernel_rfl) (fun _ _ _ h => h) (Or.inl ⟨by rfl, ?_⟩) (by assumption) ?_
        rotate_left
        · intro w hSw
          try dsimp only at hSw
          go_simp
          try with_reducible rfl
        try simp only [Act.put, List.setIfInBounds_toArray, List.set_cons_zero, List.set_cons_succ]
        refine wpAnyH_take (i := 10) (oi := ({ dst := some 101, op := Op.move (Operand.tmp 100), type := 4, pos := "laws.go:220", after := #[{ on := 9, ground := Ground.data }, { on := 8, ground := Ground.chain }], guard := none } : Oper)) (v := ?_) rfl (by kernel_rfl) (by kernel_rfl) (by kernel_rfl) (fun _ _ _ h => h) (Or.inl ⟨by rfl, ?_⟩) (by assumption) ?_
        rotate_left
        · intro w hSw
          try dsimp only at hSw
          go_simp
          try with_reducible rfl
        try simp only [Act.put, List.setIfInBounds_toArray, List.set_cons_zero, List.set_cons_succ]
        refine wpAnyH_take (i := 11) (oi := ({ dst := some 102, op := Op.load 26 (Operand.tmp 3), type := 26, pos := "laws.go:220", after := #[{ on := 10, ground := Ground.guard }], guard := some (10, true) } : Oper)) (v := ?_) rfl (by kernel_rfl) (by kernel_rfl) (by kernel_rfl) (fun _ _ _ h => h) (Or.inl ⟨by rfl, ?_⟩) (by assumption) ?_
        rotate_left
        · intro w hSw
          try dsimp only at hSw
          go_simp
          try with_reducible rfl
        try simp only [Act.put, List.setIfInBounds_toArray, List.set_cons_zero, List.set_cons_succ]
        refine wpAnyH_ready (rs := [12]) (by kernel_rfl) (by simp) ?_
        refine AllReadyH.cons (o := ({ dst := some 103, op := Op.call { callee := Callee.value (Operand.func 11), args := #[Operand.tmp 102], argTypes := #[26] }, type := 4, pos := "laws.go:220", after := #[{ on := 11, ground := Ground.data }, { on := 10, ground := Ground.chain }, { on := 10, ground := Ground.guard }], guard := some (10, true) } : Oper)) rfl (fun K hK => ?_) AllReadyH.nil
        go_simp
        go_at_call 11; refine (HVI.out _ (last9 (by assumption))).mono ?_; rintro e w19 ⟨b19, rfl, rfl, hb19⟩
        refine hK.out _ _ ?_ (fun hHeld19 => ?_)
        · try dsimp only
          exact keepS9 hb19 (by assumption)
        clear hK K
        try simp only [Act.put, List.setIfInBounds_toArray, List.set_cons_zero, List.set_cons_succ]
        refine wpAnyH_take (i := 13) (oi := ({ dst := some 104, op := Op.unOp UnOp.not 4 (Operand.tmp 103), type := 4, pos := "laws.go:220", after := #[{ on := 12, ground := Ground.data }, { on := 10, ground := Ground.guard }], guard := some (10, true) } : Oper)) (v := ?_) rfl (by kernel_rfl) (by kernel_rfl) (by kernel_rfl) (fun _ _ _ h => h) (Or.inl ⟨by rfl, ?_⟩) (by assumption) ?_
        rotate_left
        · intro w hSw
          try dsimp only at hSw
          go_simp
          try with_reducible rfl
        try simp only [Act.put, List.setIfInBounds_toArray, List.set_cons_zero, List.set_cons_succ]
        refine wpAnyH_take (i := 14) (oi := ({ dst := some 105, op := Op.move (Operand.tmp 104), type := 4, pos := "laws.go:220", after := #[{ on := 13, ground := Ground.data }, { on := 12, ground := Ground.chain }, { on := 10, ground := Ground.guard }], guard := some (10, true) } : Oper)) (v := ?_) rfl (by kernel_rfl) (by kernel_rfl) (by kernel_rfl) (fun _ _ _ h => h) (Or.inl ⟨by rfl, ?_⟩) (by assumption) ?_
        rotate_left
        · intro w hSw
          try dsimp only at hSw
          go_simp
          try with_reducible rfl
        try simp only [Act.put, List.setIfInBounds_toArray, List.set_cons_zero, List.set_cons_succ]
        refine wpAnyH_take (i := 15) (oi := ({ dst := some 106, op := Op.load 26 (Operand.tmp 9), type := 26, pos := "laws.go:220", after := #[{ on := 14, ground := Ground.guard }], guard := some (14, false) } : Oper)) (v := ?_) rfl (by kernel_rfl) (by kernel_rfl) (by kernel_rfl) (fun _ _ _ h => h) (Or.inl ⟨by rfl, ?_⟩) (by assumption) ?_
        rotate_left
        · intro w hSw
          try dsimp only at hSw
          go_simp
          try with_reducible rfl
        try simp only [Act.put, List.setIfInBounds_toArray, List.set_cons_zero, List.set_cons_succ]
        refine wpAnyH_ready (rs := [16]) (by kernel_rfl) (by simp) ?_
        refine AllReadyH.cons (o := ({ dst := some 107, op := Op.call { callee := Callee.value (Operand.func 17), args := #[Operand.tmp 106], argTypes := #[26] }, type := 4, pos := "laws.go:220", after := #[{ on := 15, ground := Ground.data }, { on := 14, ground := Ground.chain }, { on := 14, ground := Ground.guard }], guard := some (14, false) } : Oper)) rfl (fun K hK => ?_) AllReadyH.nil
        go_simp
        go_at_call_of 17 (Value.agg #[.int .i64 t.erase.kind, .slice p4 t.erase.args.length c4]); refine (HEPI.out _ (last9 (by assumption))).mono ?_; rintro e w20 ⟨b20, rfl, rfl, hb20⟩
        refine hK.out _ _ ?_ (fun hHeld20 => ?_)
        · try dsimp only
          exact keepS9 hb20 (by assumption)
        clear hK K
        try simp only [Act.put, List.setIfInBounds_toArray, List.set_cons_zero, List.set_cons_succ]
        refine wpAnyH_take (i := 17) (oi := ({ dst := some 108, op := Op.pick (Operand.tmp 105) (Operand.const (Value.bool true)) (Operand.tmp 107), type := 4, pos := "laws.go:220", after := #[{ on := 14, ground := Ground.data }, { on := 16, ground := Ground.data }, { on := 10, ground := Ground.guard }], guard := some (10, true) } : Oper)) (v := ?_) rfl (by kernel_rfl) (by kernel_rfl) (by kernel_rfl) (fun _ _ _ h => h) (Or.inl ⟨by rfl, ?_⟩) (by assumption) ?_
        rotate_left
        · intro w hSw
          try dsimp only at hSw
          go_simp
          try with_reducible rfl
        try simp only [Act.put, List.setIfInBounds_toArray, List.set_cons_zero, List.set_cons_succ]
        refine wpAnyH_take (i := 18) (oi := ({ dst := some 109, op := Op.pick (Operand.tmp 101) (Operand.tmp 108) (Operand.const (Value.bool false)), type := 4, pos := "laws.go:220", after := #[{ on := 10, ground := Ground.data }, { on := 17, ground := Ground.data }], guard := none } : Oper)) (v := ?_) rfl (by kernel_rfl) (by kernel_rfl) (by kernel_rfl) (fun _ _ _ h => h) (Or.inl ⟨by rfl, ?_⟩) (by assumption) ?_
        rotate_left
        · intro w hSw
          try dsimp only at hSw
          go_simp
          try with_reducible rfl
        try simp only [Act.put, List.setIfInBounds_toArray, List.set_cons_zero, List.set_cons_succ]
        refine wpAnyH_take (i := 19) (oi := ({ dst := some 110, op := Op.move (Operand.tmp 109), type := 4, pos := "laws.go:220", after := #[{ on := 18, ground := Ground.data }, { on := 16, ground := Ground.chain }], guard := none } : Oper)) (v := ?_) rfl (by kernel_rfl) (by kernel_rfl) (by kernel_rfl) (fun _ _ _ h => h) (Or.inl ⟨by rfl, ?_⟩) (by assumption) ?_
        rotate_left
        · intro w hSw
          try dsimp only at hSw
          go_simp
          try with_reducible rfl
        try simp only [Act.put, List.setIfInBounds_toArray, List.set_cons_zero, List.set_cons_succ]
        refine wpAnyH_take (i := 20) (oi := ({ dst := some 111, op := Op.load 26 (Operand.tmp 3), type := 26, pos := "laws.go:220", after := #[{ on := 19, ground := Ground.guard }], guard := some (19, true) } : Oper)) (v := ?_) rfl (by kernel_rfl) (by kernel_rfl) (by kernel_rfl) (fun _ _ _ h => h) (Or.inl ⟨by rfl, ?_⟩) (by assumption) ?_
        rotate_left
        · intro w hSw
          try dsimp only at hSw
          go_simp
          try with_reducible rfl
        try simp only [Act.put, List.setIfInBounds_toArray, List.set_cons_zero, List.set_cons_succ]
        refine wpAnyH_ready (rs := [21]) (by kernel_rfl) (by simp) ?_
        refine AllReadyH.cons (o := ({ dst := some 112, op := Op.call { callee := Callee.value (Operand.func 17), args := #[Operand.tmp 111], argTypes := #[26] }, type := 4, pos := "laws.go:220", after := #[{ on := 20, ground := Ground.data }, { on := 19, ground := Ground.chain }, { on := 19, ground := Ground.guard }], guard := some (19, true) } : Oper)) rfl (fun K hK => ?_) AllReadyH.nil
        go_simp
        go_at_call_of 17 (Value.agg #[.int .i64 t.kind, .slice p t.args.length c]); refine (HPI.out _ (last9 (by assumption))).mono ?_; rintro e w21 ⟨b21, rfl, rfl, hb21⟩
        refine hK.out _ _ ?_ (fun hHeld21 => ?_)
        · try dsimp only
          exact keepS9 hb21 (by assumption)
        clear hK K
        try simp only [Act.put, List.setIfInBounds_toArray, List.set_cons_zero, List.set_cons_succ]
        refine wpAnyH_take (i := 22) (oi := ({ dst := some 113, op := Op.unOp UnOp.not 4 (Operand.tmp 112), type := 4, pos := "laws.go:220", after := #[{ on := 21, ground := Ground.data }, { on := 19, ground := Ground.guard }], guard := some (19, true) } : Oper)) (v := ?_) rfl (by kernel_rfl) (by kernel_rfl) (by kernel_rfl) (fun _ _ _ h => h) (Or.inl ⟨by rfl, ?_⟩) (by assumption) ?_
        rotate_left
        · intro w hSw
          try dsimp only at hSw
          go_simp
          try with_reducible rfl
        try simp only [Act.put, List.setIfInBounds_toArray, List.set_cons_zero, List.set_cons_succ]
        refine wpAnyH_take (i := 23) (oi := ({ dst := some 114, op := Op.move (Operand.tmp 113), type := 4, pos := "laws.go:220", after := #[{ on := 22, ground := Ground.data }, { on := 21, ground := Ground.chain }, { on := 19, ground := Ground.guard }], guard := some (19, true) } : Oper)) (v := ?_) rfl (by kernel_rfl) (by kernel_rfl) (by kernel_rfl) (fun _ _ _ h => h) (Or.inl ⟨by rfl, ?_⟩) (by assumption) ?_
        rotate_left
        · intro w hSw
          try dsimp only at hSw
          go_simp
          try with_reducible rfl
        try simp only [Act.put, List.setIfInBounds_toArray, List.set_cons_zero, List.set_cons_succ]
        refine wpAnyH_take (i := 24) (oi := ({ dst := some 115, op := Op.load 26 (Operand.tmp 9), type := 26, pos := "laws.go:220", after := #[{ on := 23, ground := Ground.guard }], guard := some (23, false) } : Oper)) (v := undef) rfl (by kernel_rfl) (by kernel_rfl) (by kernel_rfl) (fun _ _ _ h => h) (Or.inr ⟨by rfl, rfl⟩) (by assumption) ?_
        try simp only [Act.put, List.setIfInBounds_toArray, List.set_cons_zero, List.set_cons_succ]
        refine wpAnyH_take (i := 25) (oi := ({ dst := some 116, op := Op.load 26 (Operand.tmp 3), type := 26, pos := "laws.go:220", after := #[{ on := 23, ground := Ground.guard }], guard := some (23, false) } : Oper)) (v := undef) rfl (by kernel_rfl) (by kernel_rfl) (by kernel_rfl) (fun _ _ _ h => h) (Or.inr ⟨by rfl, rfl⟩) (by assumption) ?_
        try simp only [Act.put, List.setIfInBounds_toArray, List.set_cons_zero, List.set_cons_succ]
        refine wpAnyH_take (i := 26) (oi := ({ dst := some 117, op := Op.call { callee := Callee.value (Operand.func 13), args := #[Operand.tmp 115, Operand.tmp 116], argTypes := #[26, 26] }, type := 4, pos := "laws.go:220", after := #[{ on := 24, ground := Ground.data }, { on := 25, ground := Ground.data }, { on := 23, ground := Ground.chain }, { on := 23, ground := Ground.guard }], guard := some (23, false) } : Oper)) (v := undef) rfl (by kernel_rfl) (by kernel_rfl) (by kernel_rfl) (fun _ _ _ h => h) (Or.inr ⟨by rfl, rfl⟩) (by assumption) ?_
        try simp only [Act.put, List.setIfInBounds_toArray, List.set_cons_zero, List.set_cons_succ]
        refine wpAnyH_take (i := 27) (oi := ({ dst := some 118, op := Op.pick (Operand.tmp 114) (Operand.const (Value.bool true)) (Operand.tmp 117), type := 4, pos := "laws.go:220", after := #[{ on := 23, ground := Ground.data }, { on := 26, ground := Ground.data }, { on := 19, ground := Ground.guard }], guard := some (19, true) } : Oper)) (v := ?_) rfl (by kernel_rfl) (by kernel_rfl) (by kernel_rfl) (fun _ _ _ h => h) (Or.inl ⟨by rfl, ?_⟩) (by assumption) ?_
        rotate_left
        · intro w hSw
          try dsimp only at hSw
          go_simp
          try with_reducible rfl
        try simp only [Act.put, List.setIfInBounds_toArray, List.set_cons_zero, List.set_cons_succ]
        refine wpAnyH_take (i := 28) (oi := ({ dst := some 119, op := Op.pick (Operand.tmp 110) (Operand.tmp 118) (Operand.const (Value.bool false)), type := 4, pos := "laws.go:220", after := #[{ on := 19, ground := Ground.data }, { on := 27, ground := Ground.data }], guard := none } : Oper)) (v := ?_) rfl (by kernel_rfl) (by kernel_rfl) (by kernel_rfl) (fun _ _ _ h => h) (Or.inl ⟨by rfl, ?_⟩) (by assumption) ?_
        rotate_left
        · intro w hSw
          try dsimp only at hSw
          go_simp
          try with_reducible rfl
        try simp only [Act.put, List.setIfInBounds_toArray, List.set_cons_zero, List.set_cons_succ]
        refine wpAnyH_take (i := 29) (oi := ({ dst := some 2, op := Op.assign (Operand.tmp 119), type := 4, pos := "laws.go:220", after := #[{ on := 28, ground := Ground.data }, { on := 26, ground := Ground.chain }, { on := 0, ground := Ground.phase }, { on := 1, ground := Ground.phase }, { on := 2, ground := Ground.phase }, { on := 3, ground := Ground.phase }, { on := 4, ground := Ground.phase }, { on := 5, ground := Ground.phase }, { on := 6, ground := Ground.phase }, { on := 7, ground := Ground.phase }, { on := 8, ground := Ground.phase }, { on := 9, ground := Ground.phase }, { on := 10, ground := Ground.phase }, { on := 11, ground := Ground.phase }, { on := 12, ground := Ground.phase }, { on := 13, ground := Ground.phase }, { on := 14, ground := Ground.phase }, { on := 15, ground := Ground.phase }, { on := 16, ground := Ground.phase }, { on := 17, ground := Ground.phase }, { on := 18, ground := Ground.phase }, { on := 19, ground := Ground.phase }, { on := 20, ground := Ground.phase }, { on := 21, ground := Ground.phase }, { on := 22, ground := Ground.phase }, { on := 23, ground := Ground.phase }, { on := 24, ground := Ground.phase }, { on := 25, ground := Ground.phase }, { on := 26, ground := Ground.phase }, { on := 27, ground := Ground.phase }, { on := 28, ground := Ground.phase }], guard := none } : Oper)) (v := ?_) rfl (by kernel_rfl) (by kernel_rfl) (by kernel_rfl) (fun _ _ _ h => h) (Or.inl ⟨by rfl, ?_⟩) (by assumption) ?_
        rotate_left
        · intro w hSw
          try dsimp only at hSw
          go_simp
          try with_reducible rfl
        try simp only [Act.put, List.setIfInBounds_toArray, List.set_cons_zero, List.set_cons_succ]
        refine wpAnyH_done (by kernel_rfl) ?_ _
        refine NoPanic.normal ?_
        go_wp2_with fail
        go_ret
        exact ⟨rfl, HBD.out.trans (Below.mono (last9 (by assumption) : Below wD.heap.size wD _) HBD.out.size)⟩
      · have HVI := Lib.hid (fun (W : World) (hW : Below wD.heap.size wD W) => hv.out ▸ validI_any (HTt.out W hW) (Nat.le_trans hna2 (by decide)))
        have HPI := Lib.hid (fun (W : World) (hW : Below wD.heap.size wD W) => hp.out ▸ plainI_any (HTt.out W hW) (Nat.le_trans hna2 (by decide)))
        refine wp_region_noPanic ?_
        refine wp_region_held_drew (S := (fun w' => w'.cell? ⟨w1.heap.size, 0, none⟩ = some (.int .i64 t.kind) ∧ w'.cell? ⟨w1.heap.size, 1, none⟩ = some (.slice p t.args.length c) ∧ w'.cell? ⟨w2.heap.size, 0, none⟩ = some (.int .i64 t2.kind) ∧ w'.cell? ⟨w2.heap.size, 1, none⟩ = some (.slice p2 t2.args.length c2) ∧
          w'.cell? ⟨w2.heap.size + 1, 0, none⟩ = some (.int .i64 u2.kind) ∧ w'.cell? ⟨w2.heap.size + 1, 1, none⟩ = some (.slice p3 u2.args.length c3) ∧ w'.cell? ⟨w3.heap.size, 0, none⟩ = some (.int .i64 t.erase.kind) ∧ w'.cell? ⟨w3.heap.size, 1, none⟩ = some (.slice p4 t.erase.args.length c4) ∧ Below wD.heap.size wD w')) (by kernel_rfl) ?_ (fun hHeld => ?_)
        · try dsimp only
          exact keepS9 (Below.refl _ _).drew HS14.out
        refine wpAnyH_take (i := 0) (oi := ({ dst := some 91, op := Op.load 26 (Operand.tmp 9), type := 26, pos := "laws.go:220", after := #[], guard := none } : Oper)) (v := ?_) rfl (by kernel_rfl) (by kernel_rfl) (by kernel_rfl) (fun _ _ _ h => h) (Or.inl ⟨by rfl, ?_⟩) (by assumption) ?_
        rotate_left
        · intro w hSw
          try dsimp only at hSw
          go_simp
          try with_reducible rfl
        try simp only [Act.put, List.setIfInBounds_toArray, List.set_cons_zero, List.set_cons_succ]
        refine wpAnyH_take (i := 1) (oi := ({ dst := some 92, op := Op.load 26 (Operand.tmp 3), type := 26, pos := "laws.go:220", after := #[], guard := none } : Oper)) (v := ?_) rfl (by kernel_rfl) (by kernel_rfl) (by kernel_rfl) (fun _ _ _ h => h) (Or.inl ⟨by rfl, ?_⟩) (by assumption) ?_
        rotate_left
        · intro w hSw
          try dsimp only at hSw
          go_simp
          try with_reducible rfl
        try simp only [Act.put, List.setIfInBounds_toArray, List.set_cons_zero, List.set_cons_succ]
        refine wpAnyH_ready (rs := [2]) (by kernel_rfl) (by simp) ?_
        refine AllReadyH.cons (o := ({ dst := some 93, op := Op.call { callee := Callee.value (Operand.func 19), args := #[Operand.tmp 92], argTypes := #[26] }, type := 26, pos := "laws.go:220", after := #[{ on := 1, ground := Ground.data }], guard := none } : Oper)) rfl (fun K hK => ?_) AllReadyH.nil
        go_simp
        go_at_call 19; refine (eraseSpT_any (HTt.out _ (last9 (by assumption))) hna2).mono ?_; rintro e w15 ⟨v15, rfl, ⟨s15, rfl, hs15⟩, hb15⟩; obtain ⟨p15, c15, rfl⟩ := hs15.form
        refine hK.out _ _ ?_ (fun hHeld15 => ?_)
        · try dsimp only
          exact keepS9 hb15 (by assumption)
        clear hK K
        try simp only [Act.put, List.setIfInBounds_toArray, List.set_cons_zero, List.set_cons_succ]
        refine wpAnyH_ready (rs := [3]) (by kernel_rfl) (by simp) ?_
        refine AllReadyH.cons (o := ({ dst := some 94, op := Op.call { callee := Callee.value (Operand.func 13), args := #[Operand.tmp 91, Operand.tmp 93], argTypes := #[26, 26] }, type := 4, pos := "laws.go:220", after := #[{ on := 0, ground := Ground.data }, { on := 2, ground := Ground.data }, { on := 2, ground := Ground.chain }], guard := none } : Oper)) rfl (fun K hK => ?_) AllReadyH.nil
        go_simp
        go_at_call_of 13 (Value.agg #[.int .i64 t.erase.kind, .slice p15 t.erase.args.length c15]); refine (eqI_any (HE.out _ (last9 (by assumption))) (⟨_, rfl, hs15⟩ : TT w15 _ t.erase (.agg #[.int .i64 t.erase.kind, .slice p15 t.erase.args.length c15])) (Nat.le_trans hne2 (by decide))).mono ?_; rintro e w16 ⟨b16, hb, rfl, hb16⟩; obtain rfl : b16 = true := hb.2 rfl
        refine hK.out _ _ ?_ (fun hHeld16 => ?_)
        · try dsimp only
          exact keepS9 hb16 (by assumption)
        clear hK K
        try simp only [Act.put, List.setIfInBounds_toArray, List.set_cons_zero, List.set_cons_succ]
        refine wpAnyH_take (i := 4) (oi := ({ dst := some 95, op := Op.move (Operand.tmp 94), type := 4, pos := "laws.go:220", after := #[{ on := 3, ground := Ground.data }, { on := 3, ground := Ground.chain }], guard := none } : Oper)) (v := ?_) rfl (by kernel_rfl) (by kernel_rfl) (by kernel_rfl) (fun _ _ _ h => h) (Or.inl ⟨by rfl, ?_⟩) (by assumption) ?_
        rotate_left
        · intro w hSw
          try dsimp only at hSw
          go_simp
          try with_reducible rfl
        try simp only [Act.put, List.setIfInBounds_toArray, List.set_cons_zero, List.set_cons_succ]
        refine wpAnyH_take (i := 5) (oi := ({ dst := some 96, op := Op.load 26 (Operand.tmp 9), type := 26, pos := "laws.go:220", after := #[{ on := 4, ground := Ground.guard }], guard := some (4, true) } : Oper)) (v := ?_) rfl (by kernel_rfl) (by kernel_rfl) (by kernel_rfl) (fun _ _ _ h => h) (Or.inl ⟨by rfl, ?_⟩) (by assumption) ?_
        rotate_left
        · intro w hSw
          try dsimp only at hSw
          go_simp
          try with_reducible rfl
        try simp only [Act.put, List.setIfInBounds_toArray, List.set_cons_zero, List.set_cons_succ]
        refine wpAnyH_take (i := 7) (oi := ({ dst := some 98, op := Op.load 26 (Operand.tmp 9), type := 26, pos := "laws.go:220", after := #[{ on := 4, ground := Ground.guard }], guard := some (4, true) } : Oper)) (v := ?_) rfl (by kernel_rfl) (by kernel_rfl) (by kernel_rfl) (fun _ _ _ h => h) (Or.inl ⟨by rfl, ?_⟩) (by assumption) ?_
        rotate_left
        · intro w hSw
          try dsimp only at hSw
          go_simp
          try with_reducible rfl
        try simp only [Act.put, List.setIfInBounds_toArray, List.set_cons_zero, List.set_cons_succ]
        refine wpAnyH_ready (rs := [6]) (by kernel_rfl) (by simp) ?_
        refine AllReadyH.cons (o := ({ dst := some 97, op := Op.call { callee := Callee.value (Operand.func 10), args := #[Operand.tmp 96], argTypes := #[26] }, type := 26, pos := "laws.go:220", after := #[{ on := 5, ground := Ground.data }, { on := 4, ground := Ground.chain }, { on := 4, ground := Ground.guard }], guard := some (4, true) } : Oper)) rfl (fun K hK => ?_) AllReadyH.nil
        go_simp
        go_at_call 10; refine (HEI.out _ (last9 (by assumption))).mono ?_; rintro e w17 ⟨v17, rfl, ⟨s17, rfl, hs17⟩, hb17⟩; obtain ⟨p17, c17, rfl⟩ := hs17.form
        refine hK.out _ _ ?_ (fun hHeld17 => ?_)
        · try dsimp only
          exact keepS9 hb17 (by assumption)
        clear hK K
        try simp only [Act.put, List.setIfInBounds_toArray, List.set_cons_zero, List.set_cons_succ]
        refine wpAnyH_ready (rs := [8]) (by kernel_rfl) (by simp) ?_
        refine AllReadyH.cons (o := ({ dst := some 99, op := Op.call { callee := Callee.value (Operand.func 13), args := #[Operand.tmp 97, Operand.tmp 98], argTypes := #[26, 26] }, type := 4, pos := "laws.go:220", after := #[{ on := 6, ground := Ground.data }, { on := 7, ground := Ground.data }, { on := 6, ground := Ground.chain }, { on := 4, ground := Ground.guard }], guard := some (4, true) } : Oper)) rfl (fun K hK => ?_) AllReadyH.nil
        go_simp
        go_at_call_of 13 (Value.agg #[.int .i64 t.erase.kind, .slice p17 t.erase.args.length c17]); refine (eqI_any (⟨_, rfl, hs17.ts⟩ : TT w17 _ t.erase (.agg #[.int .i64 t.erase.kind, .slice p17 t.erase.args.length c17])) (HE.out _ (last9 (by assumption))) (Nat.le_trans hne2 (by decide))).mono ?_; rintro e w18 ⟨b18, hb, rfl, hb18⟩; obtain rfl : b18 = true := hb.2 rfl
        refine hK.out _ _ ?_ (fun hHeld18 => ?_)
        · try dsimp only
          exact keepS9 hb18 (by assumption)
        clear hK K
        try simp only [Act.put, List.setIfInBounds_toArray, List.set_cons_zero, List.set_cons_succ]
        refine wpAnyH_take (i := 9) (oi := ({ dst := some 100, op := Op.pick (Operand.tmp 95) (Operand.tmp 99) (Operand.const (Value.bool false)), type := 4, pos := "laws.go:220", after := #[{ on := 4, ground := Ground.data }, { on := 8, ground := Ground.data }], guard := none } : Oper)) (v := ?_) rfl (by kernel_rfl) (by kernel_rfl) (by kernel_rfl) (fun _ _ _ h => h) (Or.inl ⟨by rfl, ?_⟩) (by assumption) ?_
        rotate_left
        · intro w hSw
          try dsimp only at hSw
          go_simp
          try with_reducible rfl
        try simp only [Act.put, List.setIfInBounds_toArray, List.set_cons_zero, List.set_cons_succ]
        refine wpAnyH_take (i := 10) (oi := ({ dst := some 101, op := Op.move (Operand.tmp 100), type := 4, pos := "laws.go:220", after := #[{ on := 9, ground := Ground.data }, { on := 8, ground := Ground.chain }], guard := none } : Oper)) (v := ?_) rfl (by kernel_rfl) (by kernel_rfl) (by kernel_rfl) (fun _ _ _ h => h) (Or.inl ⟨by rfl, ?_⟩) (by assumption) ?_
        rotate_left
        · intro w hSw
          try dsimp only at hSw
          go_simp
          try with_reducible rfl
        try simp only [Act.put, List.setIfInBounds_toArray, List.set_cons_zero, List.set_cons_succ]
        refine wpAnyH_take (i := 11) (oi := ({ dst := some 102, op := Op.load 26 (Operand.tmp 3), type := 26, pos := "laws.go:220", after := #[{ on := 10, ground := Ground.guard }], guard := some (10, true) } : Oper)) (v := ?_) rfl (by kernel_rfl) (by kernel_rfl) (by kernel_rfl) (fun _ _ _ h => h) (Or.inl ⟨by rfl, ?_⟩) (by assumption) ?_
        rotate_left
        · intro w hSw
          try dsimp only at hSw
          go_simp
          try with_reducible rfl
        try simp only [Act.put, List.setIfInBounds_toArray, List.set_cons_zero, List.set_cons_succ]
        refine wpAnyH_ready (rs := [12]) (by kernel_rfl) (by simp) ?_
        refine AllReadyH.cons (o := ({ dst := some 103, op := Op.call { callee := Callee.value (Operand.func 11), args := #[Operand.tmp 102], argTypes := #[26] }, type := 4, pos := "laws.go:220", after := #[{ on := 11, ground := Ground.data }, { on := 10, ground := Ground.chain }, { on := 10, ground := Ground.guard }], guard := some (10, true) } : Oper)) rfl (fun K hK => ?_) AllReadyH.nil
        go_simp
        go_at_call 11; refine (HVI.out _ (last9 (by assumption))).mono ?_; rintro e w19 ⟨b19, rfl, rfl, hb19⟩
        refine hK.out _ _ ?_ (fun hHeld19 => ?_)
        · try dsimp only
          exact keepS9 hb19 (by assumption)
        clear hK K
        try simp only [Act.put, List.setIfInBounds_toArray, List.set_cons_zero, List.set_cons_succ]
        refine wpAnyH_take (i := 13) (oi := ({ dst := some 104, op := Op.unOp UnOp.not 4 (Operand.tmp 103), type := 4, pos := "laws.go:220", after := #[{ on := 12, ground := Ground.data }, { on := 10, ground := Ground.guard }], guard := some (10, true) } : Oper)) (v := ?_) rfl (by kernel_rfl) (by kernel_rfl) (by kernel_rfl) (fun _ _ _ h => h) (Or.inl ⟨by rfl, ?_⟩) (by assumption) ?_
        rotate_left
        · intro w hSw
          try dsimp only at hSw
          go_simp
          try with_reducible rfl
        try simp only [Act.put, List.setIfInBounds_toArray, List.set_cons_zero, List.set_cons_succ]
        refine wpAnyH_take (i := 14) (oi := ({ dst := some 105, op := Op.move (Operand.tmp 104), type := 4, pos := "laws.go:220", after := #[{ on := 13, ground := Ground.data }, { on := 12, ground := Ground.chain }, { on := 10, ground := Ground.guard }], guard := some (10, true) } : Oper)) (v := ?_) rfl (by kernel_rfl) (by kernel_rfl) (by kernel_rfl) (fun _ _ _ h => h) (Or.inl ⟨by rfl, ?_⟩) (by assumption) ?_
        rotate_left
        · intro w hSw
          try dsimp only at hSw
          go_simp
          try with_reducible rfl
        try simp only [Act.put, List.setIfInBounds_toArray, List.set_cons_zero, List.set_cons_succ]
        refine wpAnyH_take (i := 15) (oi := ({ dst := some 106, op := Op.load 26 (Operand.tmp 9), type := 26, pos := "laws.go:220", after := #[{ on := 14, ground := Ground.guard }], guard := some (14, false) } : Oper)) (v := undef) rfl (by kernel_rfl) (by kernel_rfl) (by kernel_rfl) (fun _ _ _ h => h) (Or.inr ⟨by rfl, rfl⟩) (by assumption) ?_
        try simp only [Act.put, List.setIfInBounds_toArray, List.set_cons_zero, List.set_cons_succ]
        refine wpAnyH_take (i := 16) (oi := ({ dst := some 107, op := Op.call { callee := Callee.value (Operand.func 17), args := #[Operand.tmp 106], argTypes := #[26] }, type := 4, pos := "laws.go:220", after := #[{ on := 15, ground := Ground.data }, { on := 14, ground := Ground.chain }, { on := 14, ground := Ground.guard }], guard := some (14, false) } : Oper)) (v := undef) rfl (by kernel_rfl) (by kernel_rfl) (by kernel_rfl) (fun _ _ _ h => h) (Or.inr ⟨by rfl, rfl⟩) (by assumption) ?_
        try simp only [Act.put, List.setIfInBounds_toArray, List.set_cons_zero, List.set_cons_succ]
        refine wpAnyH_take (i := 17) (oi := ({ dst := some 108, op := Op.pick (Operand.tmp 105) (Operand.const (Value.bool true)) (Operand.tmp 107), type := 4, pos := "laws.go:220", after := #[{ on := 14, ground := Ground.data }, { on := 16, ground := Ground.data }, { on := 10, ground := Ground.guard }], guard := some (10, true) } : Oper)) (v := ?_) rfl (by kernel_rfl) (by kernel_rfl) (by kernel_rfl) (fun _ _ _ h => h) (Or.inl ⟨by rfl, ?_⟩) (by assumption) ?_
        rotate_left
        · intro w hSw
          try dsimp only at hSw
          go_simp
          try with_reducible rfl
        try simp only [Act.put, List.setIfInBounds_toArray, List.set_cons_zero, List.set_cons_succ]
        refine wpAnyH_take (i := 18) (oi := ({ dst := some 109, op := Op.pick (Operand.tmp 101) (Operand.tmp 108) (Operand.const (Value.bool false)), type := 4, pos := "laws.go:220", after := #[{ on := 10, ground := Ground.data }, { on := 17, ground := Ground.data }], guard := none } : Oper)) (v := ?_) rfl (by kernel_rfl) (by kernel_rfl) (by kernel_rfl) (fun _ _ _ h => h) (Or.inl ⟨by rfl, ?_⟩) (by assumption) ?_
        rotate_left
        · intro w hSw
          try dsimp only at hSw
          go_simp
          try with_reducible rfl
        try simp only [Act.put, List.setIfInBounds_toArray, List.set_cons_zero, List.set_cons_succ]
        refine wpAnyH_take (i := 19) (oi := ({ dst := some 110, op := Op.move (Operand.tmp 109), type := 4, pos := "laws.go:220", after := #[{ on := 18, ground := Ground.data }, { on := 16, ground := Ground.chain }], guard := none } : Oper)) (v := ?_) rfl (by kernel_rfl) (by kernel_rfl) (by kernel_rfl) (fun _ _ _ h => h) (Or.inl ⟨by rfl, ?_⟩) (by assumption) ?_
        rotate_left
        · intro w hSw
          try dsimp only at hSw
          go_simp
          try with_reducible rfl
        try simp only [Act.put, List.setIfInBounds_toArray, List.set_cons_zero, List.set_cons_succ]
        refine wpAnyH_take (i := 20) (oi := ({ dst := some 111, op := Op.load 26 (Operand.tmp 3), type := 26, pos := "laws.go:220", after := #[{ on := 19, ground := Ground.guard }], guard := some (19, true) } : Oper)) (v := ?_) rfl (by kernel_rfl) (by kernel_rfl) (by kernel_rfl) (fun _ _ _ h => h) (Or.inl ⟨by rfl, ?_⟩) (by assumption) ?_
        rotate_left
        · intro w hSw
          try dsimp only at hSw
          go_simp
          try with_reducible rfl
        try simp only [Act.put, List.setIfInBounds_toArray, List.set_cons_zero, List.set_cons_succ]
        refine wpAnyH_ready (rs := [21]) (by kernel_rfl) (by simp) ?_
        refine AllReadyH.cons (o := ({ dst := some 112, op := Op.call { callee := Callee.value (Operand.func 17), args := #[Operand.tmp 111], argTypes := #[26] }, type := 4, pos := "laws.go:220", after := #[{ on := 20, ground := Ground.data }, { on := 19, ground := Ground.chain }, { on := 19, ground := Ground.guard }], guard := some (19, true) } : Oper)) rfl (fun K hK => ?_) AllReadyH.nil
        go_simp
        go_at_call_of 17 (Value.agg #[.int .i64 t.kind, .slice p t.args.length c]); refine (HPI.out _ (last9 (by assumption))).mono ?_; rintro e w21 ⟨b21, rfl, rfl, hb21⟩
        refine hK.out _ _ ?_ (fun hHeld21 => ?_)
        · try dsimp only
          exact keepS9 hb21 (by assumption)
        clear hK K
        try simp only [Act.put, List.setIfInBounds_toArray, List.set_cons_zero, List.set_cons_succ]
        refine wpAnyH_take (i := 22) (oi := ({ dst := some 113, op := Op.unOp UnOp.not 4 (Operand.tmp 112), type := 4, pos := "laws.go:220", after := #[{ on := 21, ground := Ground.data }, { on := 19, ground := Ground.guard }], guard := some (19, true) } : Oper)) (v := ?_) rfl (by kernel_rfl) (by kernel_rfl) (by kernel_rfl) (fun _ _ _ h => h) (Or.inl ⟨by rfl, ?_⟩) (by assumption) ?_
        rotate_left
        · intro w hSw
          try dsimp only at hSw
          go_simp
          try with_reducible rfl
        try simp only [Act.put, List.setIfInBounds_toArray, List.set_cons_zero, List.set_cons_succ]
        refine wpAnyH_take (i := 23) (oi := ({ dst := some 114, op := Op.move (Operand.tmp 113), type := 4, pos := "laws.go:220", after := #[{ on := 22, ground := Ground.data }, { on := 21, ground := Ground.chain }, { on := 19, ground := Ground.guard }], guard := some (19, true) } : Oper)) (v := ?_) rfl (by kernel_rfl) (by kernel_rfl) (by kernel_rfl) (fun _ _ _ h => h) (Or.inl ⟨by rfl, ?_⟩) (by assumption) ?_
        rotate_left
        · intro w hSw
          try dsimp only at hSw
          go_simp
          try with_reducible rfl
        try simp only [Act.put, List.setIfInBounds_toArray, List.set_cons_zero, List.set_cons_succ]
        refine wpAnyH_take (i := 24) (oi := ({ dst := some 115, op := Op.load 26 (Operand.tmp 9), type := 26, pos := "laws.go:220", after := #[{ on := 23, ground := Ground.guard }], guard := some (23, false) } : Oper)) (v := undef) rfl (by kernel_rfl) (by kernel_rfl) (by kernel_rfl) (fun _ _ _ h => h) (Or.inr ⟨by rfl, rfl⟩) (by assumption) ?_
        try simp only [Act.put, List.setIfInBounds_toArray, List.set_cons_zero, List.set_cons_succ]
        refine wpAnyH_take (i := 25) (oi := ({ dst := some 116, op := Op.load 26 (Operand.tmp 3), type := 26, pos := "laws.go:220", after := #[{ on := 23, ground := Ground.guard }], guard := some (23, false) } : Oper)) (v := undef) rfl (by kernel_rfl) (by kernel_rfl) (by kernel_rfl) (fun _ _ _ h => h) (Or.inr ⟨by rfl, rfl⟩) (by assumption) ?_
        try simp only [Act.put, List.setIfInBounds_toArray, List.set_cons_zero, List.set_cons_succ]
        refine wpAnyH_take (i := 26) (oi := ({ dst := some 117, op := Op.call { callee := Callee.value (Operand.func 13), args := #[Operand.tmp 115, Operand.tmp 116], argTypes := #[26, 26] }, type := 4, pos := "laws.go:220", after := #[{ on := 24, ground := Ground.data }, { on := 25, ground := Ground.data }, { on := 23, ground := Ground.chain }, { on := 23, ground := Ground.guard }], guard := some (23, false) } : Oper)) (v := undef) rfl (by kernel_rfl) (by kernel_rfl) (by kernel_rfl) (fun _ _ _ h => h) (Or.inr ⟨by rfl, rfl⟩) (by assumption) ?_
        try simp only [Act.put, List.setIfInBounds_toArray, List.set_cons_zero, List.set_cons_succ]
        refine wpAnyH_take (i := 27) (oi := ({ dst := some 118, op := Op.pick (Operand.tmp 114) (Operand.const (Value.bool true)) (Operand.tmp 117), type := 4, pos := "laws.go:220", after := #[{ on := 23, ground := Ground.data }, { on := 26, ground := Ground.data }, { on := 19, ground := Ground.guard }], guard := some (19, true) } : Oper)) (v := ?_) rfl (by kernel_rfl) (by kernel_rfl) (by kernel_rfl) (fun _ _ _ h => h) (Or.inl ⟨by rfl, ?_⟩) (by assumption) ?_
        rotate_left
        · intro w hSw
          try dsimp only at hSw
          go_simp
          try with_reducible rfl
        try simp only [Act.put, List.setIfInBounds_toArray, List.set_cons_zero, List.set_cons_succ]
        refine wpAnyH_take (i := 28) (oi := ({ dst := some 119, op := Op.pick (Operand.tmp 110) (Operand.tmp 118) (Operand.const (Value.bool false)), type := 4, pos := "laws.go:220", after := #[{ on := 19, ground := Ground.data }, { on := 27, ground := Ground.data }], guard := none } : Oper)) (v := ?_) rfl (by kernel_rfl) (by kernel_rfl) (by kernel_rfl) (fun _ _ _ h => h) (Or.inl ⟨by rfl, ?_⟩) (by assumption) ?_
        rotate_left
        · intro w hSw
          try dsimp only at hSw
          go_simp
          try with_reducible rfl
        try simp only [Act.put, List.setIfInBounds_toArray, List.set_cons_zero, List.set_cons_succ]
        refine wpAnyH_take (i := 29) (oi := ({ dst := some 2, op := Op.assign (Operand.tmp 119), type := 4, pos := "laws.go:220", after := #[{ on := 28, ground := Ground.data }, { on := 26, ground := Ground.chain }, { on := 0, ground := Ground.phase }, { on := 1, ground := Ground.phase }, { on := 2, ground := Ground.phase }, { on := 3, ground := Ground.phase }, { on := 4, ground := Ground.phase }, { on := 5, ground := Ground.phase }, { on := 6, ground := Ground.phase }, { on := 7, ground := Ground.phase }, { on := 8, ground := Ground.phase }, { on := 9, ground := Ground.phase }, { on := 10, ground := Ground.phase }, { on := 11, ground := Ground.phase }, { on := 12, ground := Ground.phase }, { on := 13, ground := Ground.phase }, { on := 14, ground := Ground.phase }, { on := 15, ground := Ground.phase }, { on := 16, ground := Ground.phase }, { on := 17, ground := Ground.phase }, { on := 18, ground := Ground.phase }, { on := 19, ground := Ground.phase }, { on := 20, ground := Ground.phase }, { on := 21, ground := Ground.phase }, { on := 22, ground := Ground.phase }, { on := 23, ground := Ground.phase }, { on := 24, ground := Ground.phase }, { on := 25, ground := Ground.phase }, { on := 26, ground := Ground.phase }, { on := 27, ground := Ground.phase }, { on := 28, ground := Ground.phase }], guard := none } : Oper)) (v := ?_) rfl (by kernel_rfl) (by kernel_rfl) (by kernel_rfl) (fun _ _ _ h => h) (Or.inl ⟨by rfl, ?_⟩) (by assumption) ?_
        rotate_left
        · intro w hSw
          try dsimp only at hSw
          go_simp
          try with_reducible rfl
        try simp only [Act.put, List.setIfInBounds_toArray, List.set_cons_zero, List.set_cons_succ]
        refine wpAnyH_done (by kernel_rfl) ?_ _
        refine NoPanic.normal ?_
        go_wp2_with fail
        go_ret
        exact ⟨rfl, HBD.out.trans (Below.mono (last9 (by assumption) : Below wD.heap.size wD _) HBD.out.size)⟩
/-- THE LAW's CALL, AT EVERY CODE. -/
theorem lawTy_any (a : Option Addr) (len cap : Nat) (w : World) (hl : len ≤ 9223372036854775807) (hv : Bytes w (.slice a len cap)) :
    Calls Try.prog 3 #[.slice a len cap] w fun e w' => e = .returned (.bool true) ∧ Below w.heap.size w w' := by
  by_cases h : len ≤ 1048576
  · exact lawTy_small a len cap w h hv
  · exact lawTy_big a len cap w hl (by omega)
#print axioms lawTy_any
end Go.Proofs.Ytjobmgbchpoheaa

