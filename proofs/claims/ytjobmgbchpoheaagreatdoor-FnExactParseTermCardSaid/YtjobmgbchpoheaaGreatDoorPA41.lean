/-
  Several texts of the proof in one (each says below what it holds): TmEq ParseTermLaw Frame FrameV.
-/
import Derived.Test.YtjobmgbchpoheaaGreatDoorPA6
import Derived.Test.YtjobmgbchpoheaaGreatDoorPA1
import Derived.Test.YtjobmgbchpoheaaGreatDoorPA7
import Derived.Test.YtjobmgbchpoheaaGreatDoorPA39
import Derived.Test.YtjobmgbchpoheaaGreatDoorPA40
import Derived.ProofKit
import Derived.OpenShut
import Derived.Carry
import Derived.Below
import Derived.OpenVars
import Derived.ChangeVars
namespace Go.Proofs.YtjobmgbchpoheaaGreatDoor
open Go Go.RowKit

set_option maxRecDepth 100000 in
set_option maxHeartbeats 2000000 in
theorem eqM_of {C C' : Nat → Prop} {t u : Tm} {tp rp p tp' rp' p' : Option Addr} {tc rc c tc' rc' c' : Nat} {w : World} (hT : TM' w C t tp tc rp rc p c) (hU : TM' w C' u tp' tc' rp' rc' p' c')
    (h : ∀ (w' : World), Below w.heap.size w w' → Calls Tryz.prog 39 #[.slice p t.args.length c, .slice p' u.args.length c'] w' (BoolRet (fun b => b = true ↔ t.args = u.args) w')) :
    Calls Tryz.prog 17 #[tmV t tp tc rp rc p c, tmV u tp' tc' rp' rc' p' c'] w (BoolRet (fun b => b = true ↔ t = u) w) := by
  have HH := Lib.hid h
  have HT := Lib.hid hT
  have HU := Lib.hid hU
  have hb1 := al_below w (.cells (tmC t tp tc rp rc p c) 29)
  have hb2 := al_below (w.alloc (.cells (tmC t tp tc rp rc p c) 29)) (.cells (tmC u tp' tc' rp' rc' p' c') 29)
  have hx2 := Bx9.new (w.alloc (.cells (tmC t tp tc rp rc p c) 29)) u tp' tc' rp' rc' p' c' 29
  rw [World.size_alloc] at hx2
  have HX1 := Lib.hid ((Bx9.new w t tp tc rp rc p c 29).keep hb2)
  have HX2 := Lib.hid hx2
  have HB0 := Lib.hid (hb1.trans (hb2.mono (by simp)))
  clear h hT hU hb1 hb2 hx2
  go_enter Tryz.func17, Tryz.ntmps17
  by_cases hk : t.kind = u.kind
  rotate_left
  · go_wp2_with fail
    go_ret
    exact ⟨false, by simp; exact fun e => hk (by rw [e]), rfl, HB0.out⟩
  have hk1 : t.kind ≤ u.kind := by omega
  have hk2 : u.kind ≤ t.kind := by omega
  have HK := Lib.hid hk
  clear hk
  by_cases hn : t.name = u.name
  rotate_left
  · have hn1 := str_no hn
    have HN := Lib.hid hn
    clear hn
    go_wp2_with fail
    go_ret
    exact ⟨false, by simp; exact fun e => HN.out (by rw [e]), rfl, HB0.out⟩
  have hn1 := str_yes hn
  have HN := Lib.hid hn
  clear hn
  by_cases ho : t.other = u.other
  rotate_left
  · have ho1 := str_no ho
    have HO := Lib.hid ho
    clear ho
    go_wp2_with fail
    go_ret
    exact ⟨false, by simp; exact fun e => HO.out (by rw [e]), rfl, HB0.out⟩
  have ho1 := str_yes ho
  have HO := Lib.hid ho
  clear ho
  by_cases hi : t.n = u.n
  rotate_left
  · go_wp2_with fail
    go_ret
    exact ⟨false, by simp; exact fun e => hi (by rw [e]), rfl, HB0.out⟩
  have HC3 := Lib.hid (eqT_any (C := C) (C' := C') (t := t.ty) (u := u.ty) (v := .agg #[.int .i64 t.ty.kind, .slice tp t.ty.args.length tc]) (x := .agg #[.int .i64 u.ty.kind, .slice tp' u.ty.args.length tc']) ⟨_, rfl, HT.out.ty.stays (.of_below HB0.out)⟩ ⟨_, rfl, HU.out.ty.stays (.of_below HB0.out)⟩)
  have hi1 : t.n ≤ u.n := by omega
  have hi2 : u.n ≤ t.n := by omega
  have HI := Lib.hid hi
  clear hi
  go_wp2_with fail
  refine HC3.out.mono ?_
  rintro e w3 ⟨r3, hr3, rfl, hb3⟩
  have HR3 := Lib.hid hr3
  have HB3 := Lib.hid (HB0.out.trans (hb3.mono HB0.out.size))
  have HX13 := Lib.hid (HX1.out.keep hb3)
  have HX23 := Lib.hid (HX2.out.keep hb3)
  obtain ⟨_, _, _, _, _, _, g6, g7, _⟩ := HX1.out.keep hb3
  obtain ⟨_, _, _, _, _, _, d6, d7, _⟩ := HX2.out.keep hb3
  clear hr3 hb3 HC3
  cases r3
  · go_wp2_with fail
    go_ret
    exact ⟨false, by simp; exact fun e => (by have := HR3.out.2 (by rw [e]); cases this), rfl, HB3.out⟩
  have HC4 := Lib.hid (eqT_any (C := C) (C' := C') (t := t.res) (u := u.res) (v := .agg #[.int .i64 t.res.kind, .slice rp t.res.args.length rc]) (x := .agg #[.int .i64 u.res.kind, .slice rp' u.res.args.length rc']) ⟨_, rfl, HT.out.res.stays (.of_below HB3.out)⟩ ⟨_, rfl, HU.out.res.stays (.of_below HB3.out)⟩)
  go_wp2_with fail
  refine HC4.out.mono ?_
  rintro e w4 ⟨r4, hr4, rfl, hb4⟩
  have HR4 := Lib.hid hr4
  have HB4 := Lib.hid (HB3.out.trans (hb4.mono HB3.out.size))
  clear g6 g7 d6 d7
  obtain ⟨_, _, _, _, _, _, _, _, g8⟩ := HX13.out.keep hb4
  obtain ⟨_, _, _, _, _, _, _, _, d8⟩ := HX23.out.keep hb4
  clear hr4 hb4 HC4
  cases r4
  · go_wp2_with fail
    go_ret
    exact ⟨false, by simp; exact fun e => (by have := HR4.out.2 (by rw [e]); cases this), rfl, HB4.out⟩
  have HC5 := Lib.hid (HH.out w4 HB4.out)
  go_wp2_with fail
  refine HC5.out.mono ?_
  rintro e w5 ⟨r5, hr5, rfl, hb5⟩
  have HR5 := Lib.hid hr5
  have HB5 := Lib.hid (HB4.out.trans (hb5.mono HB4.out.size))
  clear hr5 hb5 HC5
  cases r5
  · go_wp2_with fail
    go_ret
    exact ⟨false, by simp; exact fun e => (by have := HR5.out.2 (by rw [e]); cases this), rfl, HB5.out⟩
  · go_wp2_with fail
    go_ret
    exact ⟨true, by simp only [true_iff]; exact Tm.ext' HK.out HN.out HO.out HI.out (by simpa using HR3.out) (by simpa using HR4.out) (by simpa using HR5.out), rfl, HB5.out⟩

theorem keepN {W w1 : World} {p : Addr} {v : Value} (hb1 : Below W.heap.size W w1) (h : W.cell? p = some v) : w1.cell? p = some v := (hb1.cell (World.block_lt_of_cell? W _ h)).trans h
theorem keep18 {w W w1 : World} {p0 p1 p2 p3 p4 p5 p6 p7 p8 p9 p10 p11 p12 p13 p14 p15 p16 p17 : Addr} {v0 v1 v2 v3 v4 v5 v6 v7 v8 v9 v10 v11 v12 v13 v14 v15 v16 v17 : Value} (hb1 : Below W.heap.size W w1) (h : W.cell? p0 = some v0 ∧ W.cell? p1 = some v1 ∧ W.cell? p2 = some v2 ∧ W.cell? p3 = some v3 ∧ W.cell? p4 = some v4 ∧ W.cell? p5 = some v5 ∧ W.cell? p6 = some v6 ∧ W.cell? p7 = some v7 ∧ W.cell? p8 = some v8 ∧ W.cell? p9 = some v9 ∧ W.cell? p10 = some v10 ∧ W.cell? p11 = some v11 ∧ W.cell? p12 = some v12 ∧ W.cell? p13 = some v13 ∧ W.cell? p14 = some v14 ∧ W.cell? p15 = some v15 ∧ W.cell? p16 = some v16 ∧ W.cell? p17 = some v17 ∧ Below w.heap.size w W) : w1.cell? p0 = some v0 ∧ w1.cell? p1 = some v1 ∧ w1.cell? p2 = some v2 ∧ w1.cell? p3 = some v3 ∧ w1.cell? p4 = some v4 ∧ w1.cell? p5 = some v5 ∧ w1.cell? p6 = some v6 ∧ w1.cell? p7 = some v7 ∧ w1.cell? p8 = some v8 ∧ w1.cell? p9 = some v9 ∧ w1.cell? p10 = some v10 ∧ w1.cell? p11 = some v11 ∧ w1.cell? p12 = some v12 ∧ w1.cell? p13 = some v13 ∧ w1.cell? p14 = some v14 ∧ w1.cell? p15 = some v15 ∧ w1.cell? p16 = some v16 ∧ w1.cell? p17 = some v17 ∧ Below w.heap.size w w1 := by
  obtain ⟨h0, h1, h2, h3, h4, h5, h6, h7, h8, h9, h10, h11, h12, h13, h14, h15, h16, h17, hz⟩ := h
  exact ⟨keepN hb1 h0, keepN hb1 h1, keepN hb1 h2, keepN hb1 h3, keepN hb1 h4, keepN hb1 h5, keepN hb1 h6, keepN hb1 h7, keepN hb1 h8, keepN hb1 h9, keepN hb1 h10, keepN hb1 h11, keepN hb1 h12, keepN hb1 h13, keepN hb1 h14, keepN hb1 h15, keepN hb1 h16, keepN hb1 h17, hz.trans (hb1.mono hz.size)⟩

theorem tm_take_eq {ts us : List Tm} {k : Nat} (h : ts.take k = us.take k) (h1 : k < ts.length) (h2 : k < us.length) (he : ts[k] = us[k]) : ts.take (k + 1) = us.take (k + 1) := by
  rw [List.take_add_one, List.take_add_one, h, List.getElem?_eq_getElem h1, List.getElem?_eq_getElem h2, he]
theorem tm_ne_at {ts us : List Tm} {k : Nat} (h1 : k < ts.length) (h2 : k < us.length) (hn : ¬ ts[k] = us[k]) : ts ≠ us := by
  intro e; subst e; exact hn rfl

set_option maxRecDepth 100000 in
set_option maxHeartbeats 2000000 in
theorem eqMS_any {w0 : World} {C : Nat → Prop} {ts : List Tm} {v : Value} (h : DM w0 C (tmD ts) v) : ∀ (w : World) (C' : Nat → Prop) (us : List Tm) (u : Value), Stays C w0 w → DM w C' (tmD us) u →
    Calls Tryz.prog 39 #[v, u] w (BoolRet (fun b => b = true ↔ ts = us) w) := by
  refine tm_ind (motive := fun ts v => ∀ (w : World) (C' : Nat → Prop) (us : List Tm) (u : Value), Stays C w0 w → DM w C' (tmD us) u → Calls Tryz.prog 39 #[v, u] w (BoolRet (fun b => b = true ↔ ts = us) w)) ?_ _ (Nat.le_refl _) h
  intro ts q d hlen0 H w C' us u hst hu
  obtain ⟨q', d', rfl⟩ := hu.form
  have hlen' := hu.len.1
  have HH := Lib.hid H
  have HST := Lib.hid hst
  have HU := Lib.hid hu
  clear H hst hu
  go_enter Tryz.func39, Tryz.ntmps39
  by_cases hlen : ts.length = us.length
  rotate_left
  · have hne : ¬ (ts = us) := fun e => hlen (by rw [e])
    have HN := Lib.hid hne
    clear hne
    go_wp2_with fail
    go_ret
    exact ⟨false, by simpa using HN.out, rfl, Below.refl _ _⟩
  have HL := Lib.hid hlen
  rw [← hlen]
  clear hlen
  go_wp2_with fail
  go_loopw [5] (fun i wr => ∃ (k : Nat), k ≤ ts.length ∧ i = .int .i64 k ∧ ts.take k = us.take k ∧ Below w.heap.size w wr) (fun i _ => ts.length - (intOf i).toNat)
  case atStart => exact ⟨0, Nat.zero_le _, rfl, by simp, Below.refl _ _⟩
  case round =>
    obtain ⟨k, hk, rfl, htk, hbr⟩ := hrel
    have HTK := Lib.hid htk
    have HB := Lib.hid hbr
    have HSR := Lib.hid (HST.out.trans (Stays.of_below (C := C) hbr))
    clear htk
    by_cases hlk : k < ts.length
    · have hlk2 : k < us.length := by rw [← HL.out]; exact hlk
      obtain ⟨b, o, tp, tc, rp, rc, p, c, rfl, hC, hb, h9, hT, hI⟩ := HH.out k hlk
      obtain ⟨b2, o2, tp2, tc2, rp2, rc2, p2, c2, rfl, hC2, hb2, h92, hT2⟩ := tm_part HU.out k hlk2
      obtain ⟨g0, g1, g2, g3, g4, g5, g6, g7, g8⟩ := h9 wr HSR.out
      obtain ⟨d0, d1, d2, d3, d4, d5, d6, d7, d8⟩ := h92 wr (.of_below hbr)
      have HC := Lib.hid (eqM_of (w := wr.drew) (C := C) (C' := C') ((hT.stays HSR.out).stays (.of_below (Below.refl _ _).drew)) ((hT2.stays (.of_below hbr)).stays (.of_below (Below.refl _ _).drew)) (fun w' hw' => by
        have hw1 : Below wr.heap.size wr w' := (Below.refl _ _).drew.trans hw'
        exact hI w' C' _ _ (HSR.out.trans (.of_below hw1)) ((hT2.stays (.of_below hbr)).args.stays (.of_below hw1))))
      have i0 : (0 : Int) ≤ (k : Int) := Int.natCast_nonneg _
      have i1 : (k : Int) < (ts.length : Int) := by omega
      clear hC hb h9 hT hI hC2 hb2 h92 hT2 hbr
      go_wp2_with fail
      go_region_held3 (fun w' => w'.cell? ⟨b, o + k * 9, none⟩ = some (.int .i64 ts[k].kind) ∧ w'.cell? ⟨b, o + k * 9 + 1, none⟩ = some (.string ts[k].name) ∧ w'.cell? ⟨b, o + k * 9 + 2, none⟩ = some (.string ts[k].other) ∧ w'.cell? ⟨b, o + k * 9 + 3, none⟩ = some (.int .i64 ts[k].n) ∧ w'.cell? ⟨b, o + k * 9 + 4, none⟩ = some (.int .i64 ts[k].ty.kind) ∧ w'.cell? ⟨b, o + k * 9 + 5, none⟩ = some (.slice tp ts[k].ty.args.length tc) ∧ w'.cell? ⟨b, o + k * 9 + 6, none⟩ = some (.int .i64 ts[k].res.kind) ∧ w'.cell? ⟨b, o + k * 9 + 7, none⟩ = some (.slice rp ts[k].res.args.length rc) ∧ w'.cell? ⟨b, o + k * 9 + 8, none⟩ = some (.slice p ts[k].args.length c) ∧ w'.cell? ⟨b2, o2 + k * 9, none⟩ = some (.int .i64 us[k].kind) ∧ w'.cell? ⟨b2, o2 + k * 9 + 1, none⟩ = some (.string us[k].name) ∧ w'.cell? ⟨b2, o2 + k * 9 + 2, none⟩ = some (.string us[k].other) ∧ w'.cell? ⟨b2, o2 + k * 9 + 3, none⟩ = some (.int .i64 us[k].n) ∧ w'.cell? ⟨b2, o2 + k * 9 + 4, none⟩ = some (.int .i64 us[k].ty.kind) ∧ w'.cell? ⟨b2, o2 + k * 9 + 5, none⟩ = some (.slice tp2 us[k].ty.args.length tc2) ∧ w'.cell? ⟨b2, o2 + k * 9 + 6, none⟩ = some (.int .i64 us[k].res.kind) ∧ w'.cell? ⟨b2, o2 + k * 9 + 7, none⟩ = some (.slice rp2 us[k].res.args.length rc2) ∧ w'.cell? ⟨b2, o2 + k * 9 + 8, none⟩ = some (.slice p2 us[k].args.length c2) ∧ Below w.heap.size w w')
        (first
          | (go_keep; done)
          | exact ⟨g0, g1, g2, g3, g4, g5, g6, g7, g8, d0, d1, d2, d3, d4, d5, d6, d7, d8, HB.out.drew⟩
          | exact keep18 hb1 (by assumption))
        (first
          | (go_at_call 17; refine HC.out.mono ?_; rintro e w1 ⟨r, hr, rfl, hb1⟩))
      have HR := Lib.hid hr
      have HB1 := Lib.hid (HB.out.trans (((Below.refl _ _).drew.trans hb1).mono HB.out.size))
      rename_i hH
      clear hH hb1 hr g0 g1 g2 g3 g4 g5 g6 g7 g8 d0 d1 d2 d3 d4 d5 d6 d7 d8
      cases r with
      | true =>
        go_wp2_with fail
        go_roundw
        case rel => exact ⟨k + 1, by omega, by go_num, tm_take_eq HTK.out hlk hlk2 (HR.out.1 rfl), HB1.out⟩
        case measure => simp [intOf]; omega
      | false =>
        go_wp2_with fail
        go_ret
        exact ⟨false, by simpa using tm_ne_at hlk hlk2 (fun e => by simpa using HR.out.2 e), rfl, HB1.out⟩
    · obtain rfl : k = ts.length := by omega
      have htk : ts = us := by
        have := HTK.out
        rw [List.take_length, HL.out, List.take_length] at this
        exact this
      have HE := Lib.hid htk
      clear htk
      go_wp2_with fail
      go_ret
      exact ⟨true, by simpa using HE.out, rfl, HB.out⟩
theorem eqM_any {C C' : Nat → Prop} {t u : Tm} {v x : Value} {w : World} (h : TM w C t v) (h2 : TM w C' u x) :
    Calls Tryz.prog 17 #[v, x] w (BoolRet (fun b => b = true ↔ t = u) w) := by
  obtain ⟨tp, tc, rp, rc, p, c, rfl, hT⟩ := h
  obtain ⟨tp2, tc2, rp2, rc2, p2, c2, rfl, hU⟩ := h2
  exact eqM_of hT hU (fun w' hb => eqMS_any hT.args w' _ _ _ (.of_below hb) (hU.args.keep hb))
end Go.Proofs.YtjobmgbchpoheaaGreatDoor
namespace Go.Proofs.YtjobmgbchpoheaaGreatDoor
open Go Go.RowKit

theorem parsed_wt {s : List UInt8} {t : Tm} {o : Bool} (h : ParsedAs s t o) : t.wt ≤ s.length := by
  rcases h with ⟨_, h⟩ | ⟨_, rfl, _⟩
  · have := pTm_wt s 20 0 t s.length (parseM_pTm h)
    omega
  · have : zeroM.wt = 0 := by rfl
    omega
set_option maxRecDepth 100000 in
set_option maxHeartbeats 8000000 in
theorem lawParseTerm (s : ByteArray) (w : World) (hsz : s.size ≤ 9223372036854775807) (hka : KA w) (he : Env w) :
    Calls Tryz.prog 4 #[.string s] w fun e w' => e = .returned (.bool true) ∧ Below w.heap.size w w' := by
  by_cases hbig : 1048576 < s.size
  · clear hka he
    go_enter Tryz.func4, Tryz.ntmps4
    go_wp2_with fail
    go_ret
    exact ⟨rfl, Below.refl _ _⟩
  have hs : s.size ≤ 1048576 := by omega
  have HCS := Lib.hid (parseTermS_full s hs w)
  have HCI := Lib.hid (fun W (hb : Below w.heap.size w W) => parseTermI_any s hs W (hka.below hb) (he.below hb))
  clear hka he
  go_enter Tryz.func4, Tryz.ntmps4
  go_wp2_with fail
  refine HCS.out.mono ?_
  rintro e w1 ⟨T, ok, v1, rfl, hP, ⟨tp1, tc1, rp1, rc1, p1, c1, rfl, hw⟩, hb1⟩
  have hwt : T.wt ≤ 1048576 := by
    have := parsed_wt hP
    have h2 : s.data.toList.length = s.size := by rw [Array.length_toList]; rfl
    omega
  have hcn := T.cntT_wt
  have HP := Lib.hid hP
  have HW := Lib.hid (hw.mono (C' := (· < w1.heap.size)) (fun z _ hl => hl))
  have hbx1 := al_below w1 (.cells (tmC T tp1 tc1 rp1 rc1 p1 c1) 29)
  have HBX1 := Lib.hid hbx1
  have HX1 := Lib.hid (Bx9.new w1 T tp1 tc1 rp1 rc1 p1 c1 29)
  have HB1 := Lib.hid (hb1.trans (hbx1.mono hb1.size))
  have HL1 := Lib.hid hb1.size
  have hs1 : (w1.alloc (.cells (tmC T tp1 tc1 rp1 rc1 p1 c1) 29)).heap.size = w1.heap.size + 1 := by simp
  have HS1 := Lib.hid hs1
  clear hw hb1 hbx1 hP hs1 HCS
  go_wp2_with fail
  refine (HCI.out _ HB1.out).mono ?_
  rintro e w2 ⟨T2, ok2, v2, rfl, hP2, ⟨tp2, tc2, rp2, rc2, p2, c2, rfl, ho⟩, hb2⟩
  obtain ⟨rfl, rfl⟩ := parsed_one HP.out hP2
  rw [HS1.out] at ho
  have hbx2 := al_below w2 (.cells (tmC T tp2 tc2 rp2 rc2 p2 c2) 29)
  have hb2b := hb2.trans (hbx2.mono hb2.size)
  have X1 := HX1.out.keep hb2b
  have X2 := Bx9.new w2 T tp2 tc2 rp2 rc2 p2 c2 29
  have hs2 : (w2.alloc (.cells (tmC T tp2 tc2 rp2 rc2 p2 c2) 29)).heap.size = w2.heap.size + 1 := by simp
  have l12 := hb2.size
  rw [HS1.out] at l12
  have WW : TM (w2.alloc (.cells (tmC T tp2 tc2 rp2 rc2 p2 c2) 29)) (· < w1.heap.size) T (tmV T tp1 tc1 rp1 rc1 p1 c1) := ⟨_, _, _, _, _, _, rfl, ((HW.out.stays (.of_below HBX1.out)).stays (.of_below hb2b))⟩
  have GG : OMv (w2.alloc (.cells (tmC T tp2 tc2 rp2 rc2 p2 c2) 29)) T (tmV T tp2 tc2 rp2 rc2 p2 c2) (fun z => w1.heap.size + 1 ≤ z ∧ z < w2.heap.size) := ⟨_, _, _, _, _, _, rfl, ho.keep hbx2⟩
  have HBB := Lib.hid (HB1.out.trans (hb2b.mono HB1.out.size))
  have HWW := Lib.hid WW
  have HGG := Lib.hid GG
  have HX1b := Lib.hid X1
  have HX2 := Lib.hid X2
  have HL := Lib.hid (And.intro l12 hs2)
  have HEQ := Lib.hid (eqM_any GG.tm WW)
  obtain ⟨g0, g1, g2, g3, g4, g5, g6, g7, g8⟩ := X1
  obtain ⟨d0, d1, d2, d3, d4, d5, d6, d7, d8⟩ := X2
  clear ho hb2 hb2b hbx2 hs2 l12 WW GG hP2 HX1 HBX1 HW
  go_wp2_with fail
  refine HEQ.out.mono ?_
  rintro e w6 ⟨b6, he6, rfl, hb6⟩
  obtain rfl : b6 = true := by simpa using he6
  have HS6 := Lib.hid hb6
  have HB6 := Lib.hid (HBB.out.trans (hb6.mono HBB.out.size))
  have hO6 := HGG.out.keep hb6
  obtain ⟨n, hn2⟩ : ∃ n : Nat, 1 + T.cntT = n := ⟨_, rfl⟩
  have HN := Lib.hid hn2
  have hnb : n ≤ 1099511627776 := by omega
  have hM := markTm_any hO6 1 (Nat.le_refl _) (by omega)
  rw [hn2] at hM
  have HM := Lib.hid (show Calls Tryz.prog 18 #[tmV T tp2 tc2 rp2 rc2 p2 c2, .int .i64 1] w6 _ from hM)
  have hnn : ¬ ((n : Int) < 0) := by omega
  clear g0 g1 g2 g3 g4 g5 g6 g7 g8 d0 d1 d2 d3 d4 d5 d6 d7 d8
  obtain ⟨d0, d1, d2, d3, d4, d5, d6, d7, d8⟩ := HX2.out.keep hb6
  clear he6 hb6 HEQ hM hn2 hO6 HGG
  go_wp2_with fail
  refine HM.out.mono ?_
  rintro e w11 ⟨rfl, hO, hbt11⟩
  obtain ⟨l12, hs2⟩ := HL.out
  have lw := HL1.out
  have S11 : Stays (fun z => z < w1.heap.size + 1 ∨ z = w2.heap.size) (w2.alloc (.cells (tmC T tp2 tc2 rp2 rc2 p2 c2) 29)) w11 := (Stays.of_below HS6.out).trans (hbt11.stays (fun z h1 h2 => by omega))
  have B11 : Below w.heap.size w w11 := HB6.out.trans (hbt11.below _ HB6.out.size (fun z hz => by omega))
  have HS11 := Lib.hid S11
  have HB11 := Lib.hid B11
  have HO11 := Lib.hid hO
  have hX2 := HX2.out.at (S11.2 _ (Or.inr rfl) (by omega))
  have HX2b := Lib.hid hX2
  have hH1 := heldTm_any hO.tm (Nat.le_refl _) (by omega)
  rw [HN.out] at hH1
  have HH1 := Lib.hid (show Calls Tryz.prog 19 #[tmV T tp2 tc2 rp2 rc2 p2 c2, .int .i64 1] w11 _ from hH1)
  clear d0 d1 d2 d3 d4 d5 d6 d7 d8
  obtain ⟨d0, d1, d2, d3, d4, d5, d6, d7, d8⟩ := hX2
  clear hbt11 S11 B11 hO hH1 l12 hs2 lw HM HX2
  go_wp2_with fail
  refine HH1.out.mono ?_
  rintro e w12 ⟨r12, rfl, rfl, hb12⟩
  have HB12w := Lib.hid hb12
  have HB12 := Lib.hid (HB11.out.trans (hb12.mono HB11.out.size))
  have HX2c := Lib.hid (HX2b.out.keep hb12)
  clear d0 d1 d2 d3 d4 d5 d6 d7 d8 hb12 HH1
  go_wp2_with fail
  refine (HCI.out _ HB12.out).mono ?_
  rintro e w14 ⟨T3, ok3, v3, rfl, hP3, ⟨tp3, tc3, rp3, rc3, p3, c3, rfl, ho3⟩, hb14⟩
  obtain ⟨rfl, rfl⟩ := parsed_one HP.out hP3
  have hbx := al_below w14 (.cells (tmC T tp3 tc3 rp3 rc3 p3 c3) 29)
  have hb12b := hb14.trans (hbx.mono hb14.size)
  have HB12b := Lib.hid hb12b
  have S14 := (HS11.out.trans (.of_below HB12w.out)).trans (.of_below hb12b)
  obtain ⟨l12, hs2⟩ := HL.out
  have HEQ := Lib.hid (eqM_any (⟨_, _, _, _, _, _, rfl, (ho3.keep hbx).tm⟩ : TM (w14.alloc (.cells (tmC T tp3 tc3 rp3 rc3 p3 c3) 29)) _ T (tmV T tp3 tc3 rp3 rc3 p3 c3)) (HWW.out.stays ⟨S14.1, fun z hz hl => S14.2 z (Or.inl (by omega)) hl⟩))
  have X1 := HX1b.out.at (S14.2 _ (Or.inl (by omega)) (by omega))
  have X3 := Bx9.new w14 T tp3 tc3 rp3 rc3 p3 c3 29
  have HX2d := Lib.hid (HX2c.out.keep hb12b)
  obtain ⟨g0, g1, g2, g3, g4, g5, g6, g7, g8⟩ := X1
  obtain ⟨d0, d1, d2, d3, d4, d5, d6, d7, d8⟩ := X3
  clear ho3 hb14 hbx hb12b S14 l12 hs2 hP3 HX2b HX2c
  go_wp2_with fail
  refine HEQ.out.mono ?_
  rintro e w15 ⟨b15, he15, rfl, hb15⟩
  obtain rfl : b15 = true := by simpa using he15
  have b11 := HB12w.out.trans (((HB12b.out.trans (hb15.mono HB12b.out.size))).mono HB12w.out.size)
  have HB15 := Lib.hid (HB11.out.trans (b11.mono HB11.out.size))
  have hX := HX2d.out.keep hb15
  have hH1 := heldTm_any (HO11.out.tm.keep b11) (Nat.le_refl _) (by have := HN.out; omega)
  rw [HN.out] at hH1
  have HH2 := Lib.hid (show Calls Tryz.prog 19 #[tmV T tp2 tc2 rp2 rc2 p2 c2, .int .i64 1] w15 _ from hH1)
  clear g0 g1 g2 g3 g4 g5 g6 g7 g8 d0 d1 d2 d3 d4 d5 d6 d7 d8
  obtain ⟨d0, d1, d2, d3, d4, d5, d6, d7, d8⟩ := hX
  clear he15 hb15 b11 hH1 HEQ
  go_wp2_with fail
  refine HH2.out.mono ?_
  rintro e w16 ⟨r16, rfl, rfl, hb16⟩
  have HB16 := Lib.hid (HB15.out.trans (hb16.mono HB15.out.size))
  clear d0 d1 d2 d3 d4 d5 d6 d7 d8 hb16
  go_wp2_with fail
  go_ret
  exact ⟨rfl, HB16.out⟩
end Go.Proofs.YtjobmgbchpoheaaGreatDoor
namespace Go.Proofs.YtjobmgbchpoheaaGreatDoor
open Go Go.ChangeShapes Go.WideShapes Go.ChangeAt Go.RowKit

section
variable {H : Type} {enc : TypeId × Value → H} {P : Program}
theorem trodAll_below (hl : laidOutB P = true) {W W' : World} (hb : Below W.heap.size W W') : ∀ (ts : List TypeId) (vs : List Value) (ds : List (DataW H)) (ps : List MemPlace),
    (∀ t ∈ ts, P.readableRec t = true ∧ t < P.types.size) → DataW.TrodAll enc P W 0 (fun _ => true) true ts vs ds ps → (∀ x ∈ ps, x.block < W.heap.size) →
    DataW.TrodAll enc P W' 0 (fun b => decide (b < W.heap.size)) true ts vs ds ps
  | [], [], [], _, _, h, _ => h
  | t :: ts, v :: vs, d :: ds, ps, hr, h, hlt => by
    obtain ⟨p, q, h1, h2, rfl⟩ := h
    have ht := hr t (List.mem_cons_self ..)
    exact ⟨p, q, Below.trod hl ht.1 ht.2 h1 hb (fun x hx => hlt x (List.mem_append_left _ hx)), trodAll_below hl hb ts vs ds q (fun u hu => hr u (List.mem_cons_of_mem _ hu)) h2 (fun x hx => hlt x (List.mem_append_right _ hx)), rfl⟩
  | [], _ :: _, _, _, _, h, _ => h.elim
  | [], [], _ :: _, _, _, h, _ => h.elim
  | _ :: _, [], _, _, _, h, _ => h.elim
  | _ :: _, _ :: _, [], _, _, h, _ => h.elim

end
end Go.Proofs.YtjobmgbchpoheaaGreatDoor
namespace Go.Proofs.YtjobmgbchpoheaaGreatDoor
open Go Go.ChangeShapes Go.WideShapes Go.ChangeAt Go.RowKit

section
variable {H : Type} {enc : TypeId × Value → H} {P : Program}

theorem law_postV {f : Func} {s : ChangeSpec} {W W' : World} {args : Array Value} {ds gs : List (DataW H)} {before : List MemPlace} {tb : TypeId} (hl : laidOutB P = true)
    (hts : (f.params.toList.all fun t => P.readableRec t && decide (t < P.types.size)) = true) (hbool : P.underlying tb = some .bool) (hres : f.resultTypes = #[tb]) (hvars : varsRowed P s.vars = true)
    (hW : DataW.Whole enc P f.params.toList s.vars false W args.toList ds gs before) (hr : (s.fn H (ds ++ gs)).results = [.lit (.bool true)]) (ha : (s.fn H (ds ++ gs)).args = ds) (hv : (s.fn H (ds ++ gs)).vars = gs)
    (hb : Below W.heap.size W W') : s.post enc P f false true false false W args (.bool true) W' := by
  have hW0 := hW
  obtain ⟨p, q, hA, hV, rfl, hfz, _⟩ := hW
  have hlt : ∀ x ∈ p, x.block < W.heap.size := fun x hx => hW0.lt x (List.mem_append_left _ hx)
  refine ⟨ds, gs, p ++ q, [], p, q, hW0, ?_, ?_, ?_, hb.frame _, fun h => by cases h⟩
  · rw [hr, hres]
    exact trodAll_mk1 (shut_bool hbool _)
  · rw [ha]
    refine trodAll_below hl hb _ _ _ _ (fun t ht => ?_) hA hlt
    have := List.all_eq_true.1 hts t ht
    simp only [Bool.and_eq_true, decide_eq_true_eq] at this
    exact this
  · rw [hv]
    exact Below.trodVars hl hb hvars hV
end
end Go.Proofs.YtjobmgbchpoheaaGreatDoor
