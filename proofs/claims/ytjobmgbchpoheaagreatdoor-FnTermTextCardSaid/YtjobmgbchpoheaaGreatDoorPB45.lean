/-
  Several texts of the proof in one (each says below what it holds): FnTermTextLaw.
-/
import Derived.Test.YtjobmgbchpoheaaGreatDoorPB42
import Derived.Test.YtjobmgbchpoheaaGreatDoorPB43
import Derived.Test.YtjobmgbchpoheaaGreatDoorPB12
import Derived.Test.YtjobmgbchpoheaaGreatDoorPB44
import Derived.Test.YtjobmgbchpoheaaGreatDoorPB40
namespace Go.Proofs.YtjobmgbchpoheaaGreatDoor
open Go Go.RowKit

theorem text_parsed {t T : Tm} {x : List UInt8} {ok : Bool} (hx : (t.Valid ∧ x = t.text) ∨ (¬ t.Valid ∧ x = [])) (hP : ParsedAs x T ok) : (ok = true ↔ t.Valid) ∧ (ok = true → T = t) := by
  rcases hx with ⟨hv, rfl⟩ | ⟨hv, rfl⟩
  · have h2 : ParsedAs t.text t true := Or.inl ⟨rfl, hv, rfl⟩
    obtain ⟨rfl, rfl⟩ := parsed_one hP h2
    exact ⟨⟨fun _ => hv, fun _ => rfl⟩, fun _ => rfl⟩
  · rcases hP with ⟨rfl, h⟩ | ⟨rfl, rfl, h⟩
    · exact absurd h.2 (text_some h.1)
    · exact ⟨⟨fun e => (by cases e), fun e => absurd e hv⟩, fun e => (by cases e)⟩
theorem keep9z {w W w1 : World} {p0 p1 p2 p3 p4 p5 p6 p7 p8 : Addr} {v0 v1 v2 v3 v4 v5 v6 v7 v8 : Value} (hb1 : Below W.heap.size W w1) (h : Below w.heap.size w W ∧ W.cell? p0 = some v0 ∧ W.cell? p1 = some v1 ∧ W.cell? p2 = some v2 ∧ W.cell? p3 = some v3 ∧ W.cell? p4 = some v4 ∧ W.cell? p5 = some v5 ∧ W.cell? p6 = some v6 ∧ W.cell? p7 = some v7 ∧ W.cell? p8 = some v8) : Below w.heap.size w w1 ∧ w1.cell? p0 = some v0 ∧ w1.cell? p1 = some v1 ∧ w1.cell? p2 = some v2 ∧ w1.cell? p3 = some v3 ∧ w1.cell? p4 = some v4 ∧ w1.cell? p5 = some v5 ∧ w1.cell? p6 = some v6 ∧ w1.cell? p7 = some v7 ∧ w1.cell? p8 = some v8 := by
  obtain ⟨hz, h0, h1, h2, h3, h4, h5, h6, h7, h8⟩ := h
  exact ⟨hz.trans (hb1.mono hz.size), keepN hb1 h0, keepN hb1 h1, keepN hb1 h2, keepN hb1 h3, keepN hb1 h4, keepN hb1 h5, keepN hb1 h6, keepN hb1 h7, keepN hb1 h8⟩
theorem keep18z {w W w1 : World} {p0 p1 p2 p3 p4 p5 p6 p7 p8 p9 p10 p11 p12 p13 p14 p15 p16 p17 : Addr} {v0 v1 v2 v3 v4 v5 v6 v7 v8 v9 v10 v11 v12 v13 v14 v15 v16 v17 : Value} (hb1 : Below W.heap.size W w1) (h : Below w.heap.size w W ∧ W.cell? p0 = some v0 ∧ W.cell? p1 = some v1 ∧ W.cell? p2 = some v2 ∧ W.cell? p3 = some v3 ∧ W.cell? p4 = some v4 ∧ W.cell? p5 = some v5 ∧ W.cell? p6 = some v6 ∧ W.cell? p7 = some v7 ∧ W.cell? p8 = some v8 ∧ W.cell? p9 = some v9 ∧ W.cell? p10 = some v10 ∧ W.cell? p11 = some v11 ∧ W.cell? p12 = some v12 ∧ W.cell? p13 = some v13 ∧ W.cell? p14 = some v14 ∧ W.cell? p15 = some v15 ∧ W.cell? p16 = some v16 ∧ W.cell? p17 = some v17) : Below w.heap.size w w1 ∧ w1.cell? p0 = some v0 ∧ w1.cell? p1 = some v1 ∧ w1.cell? p2 = some v2 ∧ w1.cell? p3 = some v3 ∧ w1.cell? p4 = some v4 ∧ w1.cell? p5 = some v5 ∧ w1.cell? p6 = some v6 ∧ w1.cell? p7 = some v7 ∧ w1.cell? p8 = some v8 ∧ w1.cell? p9 = some v9 ∧ w1.cell? p10 = some v10 ∧ w1.cell? p11 = some v11 ∧ w1.cell? p12 = some v12 ∧ w1.cell? p13 = some v13 ∧ w1.cell? p14 = some v14 ∧ w1.cell? p15 = some v15 ∧ w1.cell? p16 = some v16 ∧ w1.cell? p17 = some v17 := by
  obtain ⟨hz, h0, h1, h2, h3, h4, h5, h6, h7, h8, h9, h10, h11, h12, h13, h14, h15, h16, h17⟩ := h
  exact ⟨hz.trans (hb1.mono hz.size), keepN hb1 h0, keepN hb1 h1, keepN hb1 h2, keepN hb1 h3, keepN hb1 h4, keepN hb1 h5, keepN hb1 h6, keepN hb1 h7, keepN hb1 h8, keepN hb1 h9, keepN hb1 h10, keepN hb1 h11, keepN hb1 h12, keepN hb1 h13, keepN hb1 h14, keepN hb1 h15, keepN hb1 h16, keepN hb1 h17⟩
set_option maxRecDepth 100000 in
set_option maxHeartbeats 400000 in
theorem lawFTT_big (a : Option Addr) (len cap : Nat) (w : World) (hl : len ≤ 9223372036854775807) (h : 1048576 < (len : Int)) :
    Calls Tryz.prog 3 #[.slice a len cap] w fun e w' => e = .returned (.bool true) ∧ Below w.heap.size w w' := by
  go_enter Tryz.func3, Tryz.ntmps3
  go_wp2_with fail
  refine (big_yes a len cap w hl h).mono ?_
  rintro e w' ⟨rfl, rfl⟩
  go_wp2_with fail
  go_ret
  exact ⟨rfl, Below.refl _ _⟩
set_option maxRecDepth 100000 in
set_option maxHeartbeats 16000000 in
theorem lawFTT_small (a : Option Addr) (len cap : Nat) (w : World) (hl : len ≤ 1048576) (hv : Bytes w (.slice a len cap)) (hka : KA w) (he : Env w) :
    Calls Tryz.prog 3 #[.slice a len cap] w fun e w' => e = .returned (.bool true) ∧ Below w.heap.size w w' := by
  have HV := Lib.hid hv
  have HK := Lib.hid (fun W (hb : Below w.heap.size w W) => hka.below hb)
  have HE := Lib.hid (fun W (hb : Below w.heap.size w W) => he.below hb)
  clear hv hka he
  go_enter Tryz.func3, Tryz.ntmps3
  go_wp2_with fail
  refine (big_no a len cap w (by omega)).mono ?_
  rintro e w' ⟨rfl, rfl⟩
  go_wp2_with fail
  refine (drawFT_any _ w HV.out hl).mono ?_
  rintro e w1 ⟨v1, t, rfl, hwt, ⟨tp1, tc1, rp1, rc1, p1, c1, rfl, hT⟩, hb1⟩
  obtain ⟨x, hx⟩ : ∃ x : List UInt8, (t.Valid ∧ x = t.text) ∨ (¬ t.Valid ∧ x = []) := by
    by_cases h : t.Valid
    · exact ⟨_, Or.inl ⟨h, rfl⟩⟩
    · exact ⟨_, Or.inr ⟨h, rfl⟩⟩
  have hxl : x.length ≤ 20000 := by
    rcases hx with ⟨h, rfl⟩ | ⟨h, rfl⟩
    · have := textM_le t h.2.2; omega
    · simp
  have hxs : (⟨x.toArray⟩ : ByteArray).size ≤ 1048576 := by simp only [ByteArray.size, List.size_toArray]; omega
  have HX := Lib.hid hx
  have HXS := Lib.hid hxs
  have hbx1 := al_below w1 (.cells (tmC t tp1 tc1 rp1 rc1 p1 c1) 29)
  have HB1 := Lib.hid (hb1.trans (hbx1.mono hb1.size))
  have HX1 := Lib.hid (Bx9.new w1 t tp1 tc1 rp1 rc1 p1 c1 29)
  have HT1 := Lib.hid (hT.stays (.of_below hbx1))
  clear hT hb1 hbx1 hx hxl hxs
  go_wp2_with fail
  refine (fmtTermI_any (HK.out _ HB1.out) (HE.out _ HB1.out).1 ⟨_, _, _, _, _, _, rfl, HT1.out⟩ (by omega) x HX.out).mono ?_
  rintro e w2 ⟨rfl, hb2⟩
  have HB2 := Lib.hid (HB1.out.trans (hb2.mono HB1.out.size))
  have HB12 := Lib.hid hb2
  clear hb2
  go_wp2_with fail
  refine (parseTermI_any ⟨x.toArray⟩ HXS.out w2 (HK.out _ HB2.out) (HE.out _ HB2.out)).mono ?_
  rintro e w3 ⟨T, ok, v3, rfl, hP, ⟨tp2, tc2, rp2, rc2, p2, c2, rfl, ho⟩, hb3⟩
  have hbx2 := al_below w3 (.cells (tmC T tp2 tc2 rp2 rc2 p2 c2) 29)
  have hb23 := hb3.trans (hbx2.mono hb3.size)
  have hb13 := HB12.out.trans (hb23.mono HB12.out.size)
  have X1 := HX1.out.keep hb13
  have HX1b := Lib.hid X1
  have HX2 := Lib.hid (Bx9.new w3 T tp2 tc2 rp2 rc2 p2 c2 29)
  have HT1b := Lib.hid (HT1.out.stays (.of_below hb13))
  have HT2 := Lib.hid ((ho.keep hbx2).tm)
  have HB3 := Lib.hid (HB2.out.trans (hb23.mono HB2.out.size))
  obtain ⟨hok, hTt⟩ := text_parsed HX.out (show ParsedAs x T ok from hP)
  have HOK := Lib.hid hok
  have HTT := Lib.hid hTt
  have HWT2 := Lib.hid (show T.wt ≤ 1048576 from Nat.le_trans (parsed_wt hP) (by have := HXS.out; simpa [ByteArray.size] using this))
  obtain ⟨g0, g1, g2, g3, g4, g5, g6, g7, g8⟩ := X1
  clear ho hb3 hbx2 hb23 hb13 hP hok hTt HX1 HT1 HB12
  go_wp2_with fail
  refine (fmtTermS_any ⟨_, _, _, _, _, _, rfl, HT1b.out⟩ (by omega) x HX.out).mono ?_
  rintro e w4 ⟨rfl, hb4⟩
  have HB4 := Lib.hid hb4
  clear g0 g1 g2 g3 g4 g5 g6 g7 g8
  obtain ⟨g0, g1, g2, g3, g4, g5, g6, g7, g8⟩ := HX1b.out.keep hb4
  clear hb4
  go_wp2_with fail
  refine (validM_any ⟨_, _, _, _, _, _, rfl, HT1b.out.stays (.of_below HB4.out)⟩ (by omega)).mono ?_
  rintro e w5 ⟨r, hr, rfl, hb5⟩
  obtain rfl : r = ok := by rw [Bool.eq_iff_iff]; exact hr.trans HOK.out.symm
  have hb45 := HB4.out.trans (hb5.mono HB4.out.size)
  have HB45 := Lib.hid hb45
  clear g0 g1 g2 g3 g4 g5 g6 g7 g8
  obtain ⟨g0, g1, g2, g3, g4, g5, g6, g7, g8⟩ := HX1b.out.keep hb45
  obtain ⟨d0, d1, d2, d3, d4, d5, d6, d7, d8⟩ := HX2.out.keep hb45
  clear hr hb5 hb45
  cases r with
  | false =>
    go_wp2_with fail
    have HBX := Lib.hid (HB3.out.trans (HB45.out.mono HB3.out.size))
    clear g0 g1 g2 g3 g4 g5 g6 g7 g8 d0 d1 d2 d3 d4 d5 d6 d7 d8
    refine (drawPT_any _ _ (HV.out.below HBX.out) hl).mono ?_
    rintro e w6 ⟨y, rfl, hys, hb6⟩
    have HB6 := Lib.hid (HBX.out.trans (hb6.mono HBX.out.size))
    clear hb6
    go_wp2_with fail
    refine (parseTermI_any y (by omega) w6 (HK.out _ HB6.out) (HE.out _ HB6.out)).mono ?_
    rintro e w7 ⟨Y, f, v7, rfl, hP7, ⟨tp3, tc3, rp3, rc3, p3, c3, rfl, ho7⟩, hb7⟩
    have hbx7 := al_below w7 (.cells (tmC Y tp3 tc3 rp3 rc3 p3 c3) 29)
    have HX7 := Lib.hid (Bx9.new w7 Y tp3 tc3 rp3 rc3 p3 c3 29)
    have HT7 := Lib.hid ((ho7.keep hbx7).tm)
    have HB7 := Lib.hid ((HB6.out.trans (hb7.mono HB6.out.size)).trans (hbx7.mono (Nat.le_trans HB6.out.size hb7.size)))
    have HP7 := Lib.hid hP7
    clear ho7 hb7 hbx7 hP7
    go_wp2_with fail
    refine (parseTermS_full y (by omega) _).mono ?_
    rintro e w8 ⟨Y2, f2, v8, rfl, hP8, ⟨tp4, tc4, rp4, rc4, p4, c4, rfl, htm8⟩, hb8'⟩
    obtain ⟨rfl, rfl⟩ := parsed_one HP7.out hP8
    have hbx8 := al_below w8 (.cells (tmC Y tp4 tc4 rp4 rc4 p4 c4) 29)
    have hb8 := hb8'.trans (hbx8.mono hb8'.size)
    have HB8 := Lib.hid (HB7.out.trans (hb8.mono HB7.out.size))
    have HX8 := Lib.hid (HX7.out.keep hb8)
    have HT8 := Lib.hid (HT7.out.stays (.of_below hb8))
    clear hb8 hb8' hbx8 htm8 hP8 HX7 HT7
    go_wp2_with fail
    refine (drawTT_any _ _ (HV.out.below HB8.out) hl).mono ?_
    rintro e w9 ⟨v9, u, rfl, huw, ⟨tp5, tc5, rp5, rc5, p5, c5, rfl, hU⟩, hb9⟩
    have hbx9 := al_below w9 (.cells (tmC u tp5 tc5 rp5 rc5 p5 c5) 29)
    have hb99 := hb9.trans (hbx9.mono hb9.size)
    have HB9 := Lib.hid (HB8.out.trans (hb99.mono HB8.out.size))
    have HX9 := Lib.hid (Bx9.new w9 u tp5 tc5 rp5 rc5 p5 c5 29)
    have HU9 := Lib.hid (hU.stays (.of_below hbx9))
    have X8 := HX8.out.keep hb99
    have HT9 := Lib.hid (HT8.out.stays (.of_below hb99))
    obtain ⟨z, hz⟩ : ∃ z : List UInt8, (u.IsT ∧ z = u.text) ∨ (¬ u.IsT ∧ z = []) := by
      by_cases h : u.IsT
      · exact ⟨_, Or.inl ⟨h, rfl⟩⟩
      · exact ⟨_, Or.inr ⟨h, rfl⟩⟩
    have HZ := Lib.hid hz
    clear hU hb9 hbx9 hb99 hz HX8 HT8
    cases f with
    | false =>
      obtain ⟨g0, g1, g2, g3, g4, g5, g6, g7, g8⟩ := HX9.out
      clear X8
      go_wp2_with fail
      refine wp_region_noPanic ?_
      refine wp_region_held_drew (S := (fun w' => Below (w9.alloc (.cells (tmC u tp5 tc5 rp5 rc5 p5 c5) 29)).heap.size (w9.alloc (.cells (tmC u tp5 tc5 rp5 rc5 p5 c5) 29)) w' ∧ w'.cell? ⟨w9.heap.size, 0, none⟩ = some (.int .i64 u.kind) ∧ w'.cell? ⟨w9.heap.size, 1, none⟩ = some (.string u.name) ∧ w'.cell? ⟨w9.heap.size, 2, none⟩ = some (.string u.other) ∧ w'.cell? ⟨w9.heap.size, 3, none⟩ = some (.int .i64 u.n) ∧ w'.cell? ⟨w9.heap.size, 4, none⟩ = some (.int .i64 u.ty.kind) ∧ w'.cell? ⟨w9.heap.size, 5, none⟩ = some (.slice tp5 u.ty.args.length tc5) ∧ w'.cell? ⟨w9.heap.size, 6, none⟩ = some (.int .i64 u.res.kind) ∧ w'.cell? ⟨w9.heap.size, 7, none⟩ = some (.slice rp5 u.res.args.length rc5) ∧ w'.cell? ⟨w9.heap.size, 8, none⟩ = some (.slice p5 u.args.length c5))) (by kernel_rfl) ?_ (fun hHeld => ?_)
      · try dsimp only
        exact ⟨(Below.refl _ _).drew, g0, g1, g2, g3, g4, g5, g6, g7, g8⟩
      refine wpAnyH_take (i := 0) (oi := ({ dst := some 66, op := Op.move (Operand.tmp 9), type := 4, pos := "laws.go:277", after := #[], guard := none } : Oper)) (v := ?_) rfl (by kernel_rfl) (by kernel_rfl) (by kernel_rfl) (fun _ _ _ h => h) (Or.inl ⟨by rfl, ?_⟩) (by assumption) ?_
      rotate_left
      · intro w hSw
        try dsimp only at hSw
        go_simp
        try with_reducible rfl
      try simp only [Act.put, List.setIfInBounds_toArray, List.set_cons_zero, List.set_cons_succ]
      refine wpAnyH_take (i := 1) (oi := ({ dst := some 67, op := Op.move (Operand.tmp 11), type := 4, pos := "laws.go:277", after := #[], guard := none } : Oper)) (v := ?_) rfl (by kernel_rfl) (by kernel_rfl) (by kernel_rfl) (fun _ _ _ h => h) (Or.inl ⟨by rfl, ?_⟩) (by assumption) ?_
      rotate_left
      · intro w hSw
        try dsimp only at hSw
        go_simp
        try with_reducible rfl
      try simp only [Act.put, List.setIfInBounds_toArray, List.set_cons_zero, List.set_cons_succ]
      refine wpAnyH_take (i := 2) (oi := ({ dst := some 68, op := Op.binOp BinOp.eql 4 (Operand.tmp 66) (Operand.tmp 67) 4, type := 4, pos := "laws.go:277", after := #[{ on := 0, ground := Ground.data }, { on := 1, ground := Ground.data }], guard := none } : Oper)) (v := ?_) rfl (by kernel_rfl) (by kernel_rfl) (by kernel_rfl) (fun _ _ _ h => h) (Or.inl ⟨by rfl, ?_⟩) (by assumption) ?_
      rotate_left
      · intro w hSw
        try dsimp only at hSw
        go_simp
        try with_reducible rfl
      try simp only [Act.put, List.setIfInBounds_toArray, List.set_cons_zero, List.set_cons_succ]
      refine wpAnyH_take (i := 3) (oi := ({ dst := some 69, op := Op.move (Operand.tmp 68), type := 4, pos := "laws.go:277", after := #[{ on := 2, ground := Ground.data }], guard := none } : Oper)) (v := ?_) rfl (by kernel_rfl) (by kernel_rfl) (by kernel_rfl) (fun _ _ _ h => h) (Or.inl ⟨by rfl, ?_⟩) (by assumption) ?_
      rotate_left
      · intro w hSw
        try dsimp only at hSw
        go_simp
        try with_reducible rfl
      try simp only [Act.put, List.setIfInBounds_toArray, List.set_cons_zero, List.set_cons_succ]
      refine wpAnyH_take (i := 4) (oi := ({ dst := some 70, op := Op.move (Operand.tmp 9), type := 4, pos := "laws.go:277", after := #[{ on := 3, ground := Ground.guard }], guard := some (3, true) } : Oper)) (v := ?_) rfl (by kernel_rfl) (by kernel_rfl) (by kernel_rfl) (fun _ _ _ h => h) (Or.inl ⟨by rfl, ?_⟩) (by assumption) ?_
      rotate_left
      · intro w hSw
        try dsimp only at hSw
        go_simp
        try with_reducible rfl
      try simp only [Act.put, List.setIfInBounds_toArray, List.set_cons_zero, List.set_cons_succ]
      refine wpAnyH_take (i := 5) (oi := ({ dst := some 71, op := Op.unOp UnOp.not 4 (Operand.tmp 70), type := 4, pos := "laws.go:277", after := #[{ on := 4, ground := Ground.data }, { on := 3, ground := Ground.guard }], guard := some (3, true) } : Oper)) (v := ?_) rfl (by kernel_rfl) (by kernel_rfl) (by kernel_rfl) (fun _ _ _ h => h) (Or.inl ⟨by rfl, ?_⟩) (by assumption) ?_
      rotate_left
      · intro w hSw
        try dsimp only at hSw
        go_simp
        try with_reducible rfl
      try simp only [Act.put, List.setIfInBounds_toArray, List.set_cons_zero, List.set_cons_succ]
      refine wpAnyH_take (i := 6) (oi := ({ dst := some 72, op := Op.move (Operand.tmp 71), type := 4, pos := "laws.go:277", after := #[{ on := 5, ground := Ground.data }, { on := 3, ground := Ground.chain }, { on := 3, ground := Ground.guard }], guard := some (3, true) } : Oper)) (v := ?_) rfl (by kernel_rfl) (by kernel_rfl) (by kernel_rfl) (fun _ _ _ h => h) (Or.inl ⟨by rfl, ?_⟩) (by assumption) ?_
      rotate_left
      · intro w hSw
        try dsimp only at hSw
        go_simp
        try with_reducible rfl
      try simp only [Act.put, List.setIfInBounds_toArray, List.set_cons_zero, List.set_cons_succ]
      refine wpAnyH_take (i := 7) (oi := ({ dst := some 73, op := Op.load 29 (Operand.tmp 8), type := 29, pos := "laws.go:277", after := #[{ on := 6, ground := Ground.guard }], guard := some (6, false) } : Oper)) (v := undef) rfl (by kernel_rfl) (by kernel_rfl) (by kernel_rfl) (fun _ _ _ h => h) (Or.inr ⟨by rfl, rfl⟩) (by assumption) ?_
      try simp only [Act.put, List.setIfInBounds_toArray, List.set_cons_zero, List.set_cons_succ]
      refine wpAnyH_take (i := 8) (oi := ({ dst := some 74, op := Op.call { callee := Callee.value (Operand.func 7), args := #[Operand.tmp 73], argTypes := #[29] }, type := 9, pos := "laws.go:277", after := #[{ on := 7, ground := Ground.data }, { on := 6, ground := Ground.chain }, { on := 6, ground := Ground.guard }], guard := some (6, false) } : Oper)) (v := undef) rfl (by kernel_rfl) (by kernel_rfl) (by kernel_rfl) (fun _ _ _ h => h) (Or.inr ⟨by rfl, rfl⟩) (by assumption) ?_
      try simp only [Act.put, List.setIfInBounds_toArray, List.set_cons_zero, List.set_cons_succ]
      refine wpAnyH_take (i := 9) (oi := ({ dst := some 75, op := Op.move (Operand.tmp 7), type := 9, pos := "laws.go:277", after := #[{ on := 6, ground := Ground.guard }], guard := some (6, false) } : Oper)) (v := undef) rfl (by kernel_rfl) (by kernel_rfl) (by kernel_rfl) (fun _ _ _ h => h) (Or.inr ⟨by rfl, rfl⟩) (by assumption) ?_
      try simp only [Act.put, List.setIfInBounds_toArray, List.set_cons_zero, List.set_cons_succ]
      refine wpAnyH_take (i := 10) (oi := ({ dst := some 76, op := Op.binOp BinOp.eql 9 (Operand.tmp 74) (Operand.tmp 75) 9, type := 4, pos := "laws.go:277", after := #[{ on := 8, ground := Ground.data }, { on := 9, ground := Ground.data }, { on := 6, ground := Ground.guard }], guard := some (6, false) } : Oper)) (v := undef) rfl (by kernel_rfl) (by kernel_rfl) (by kernel_rfl) (fun _ _ _ h => h) (Or.inr ⟨by rfl, rfl⟩) (by assumption) ?_
      try simp only [Act.put, List.setIfInBounds_toArray, List.set_cons_zero, List.set_cons_succ]
      refine wpAnyH_take (i := 11) (oi := ({ dst := some 77, op := Op.pick (Operand.tmp 72) (Operand.const (Value.bool true)) (Operand.tmp 76), type := 4, pos := "laws.go:277", after := #[{ on := 6, ground := Ground.data }, { on := 10, ground := Ground.data }, { on := 3, ground := Ground.guard }], guard := some (3, true) } : Oper)) (v := ?_) rfl (by kernel_rfl) (by kernel_rfl) (by kernel_rfl) (fun _ _ _ h => h) (Or.inl ⟨by rfl, ?_⟩) (by assumption) ?_
      rotate_left
      · intro w hSw
        try dsimp only at hSw
        go_simp
        try with_reducible rfl
      try simp only [Act.put, List.setIfInBounds_toArray, List.set_cons_zero, List.set_cons_succ]
      refine wpAnyH_take (i := 12) (oi := ({ dst := some 78, op := Op.pick (Operand.tmp 69) (Operand.tmp 77) (Operand.const (Value.bool false)), type := 4, pos := "laws.go:277", after := #[{ on := 3, ground := Ground.data }, { on := 11, ground := Ground.data }], guard := none } : Oper)) (v := ?_) rfl (by kernel_rfl) (by kernel_rfl) (by kernel_rfl) (fun _ _ _ h => h) (Or.inl ⟨by rfl, ?_⟩) (by assumption) ?_
      rotate_left
      · intro w hSw
        try dsimp only at hSw
        go_simp
        try with_reducible rfl
      try simp only [Act.put, List.setIfInBounds_toArray, List.set_cons_zero, List.set_cons_succ]
      refine wpAnyH_take (i := 13) (oi := ({ dst := some 79, op := Op.move (Operand.tmp 78), type := 4, pos := "laws.go:277", after := #[{ on := 12, ground := Ground.data }, { on := 8, ground := Ground.chain }], guard := none } : Oper)) (v := ?_) rfl (by kernel_rfl) (by kernel_rfl) (by kernel_rfl) (fun _ _ _ h => h) (Or.inl ⟨by rfl, ?_⟩) (by assumption) ?_
      rotate_left
      · intro w hSw
        try dsimp only at hSw
        go_simp
        try with_reducible rfl
      try simp only [Act.put, List.setIfInBounds_toArray, List.set_cons_zero, List.set_cons_succ]
      refine wpAnyH_take (i := 14) (oi := ({ dst := some 80, op := Op.load 29 (Operand.tmp 12), type := 29, pos := "laws.go:277", after := #[{ on := 13, ground := Ground.guard }], guard := some (13, true) } : Oper)) (v := ?_) rfl (by kernel_rfl) (by kernel_rfl) (by kernel_rfl) (fun _ _ _ h => h) (Or.inl ⟨by rfl, ?_⟩) (by assumption) ?_
      rotate_left
      · intro w hSw
        try dsimp only at hSw
        go_simp
        try with_reducible rfl
      try simp only [Act.put, List.setIfInBounds_toArray, List.set_cons_zero, List.set_cons_succ]
      refine wpAnyH_take (i := 16) (oi := ({ dst := some 82, op := Op.load 29 (Operand.tmp 12), type := 29, pos := "laws.go:277", after := #[{ on := 13, ground := Ground.guard }], guard := some (13, true) } : Oper)) (v := ?_) rfl (by kernel_rfl) (by kernel_rfl) (by kernel_rfl) (fun _ _ _ h => h) (Or.inl ⟨by rfl, ?_⟩) (by assumption) ?_
      rotate_left
      · intro w hSw
        try dsimp only at hSw
        go_simp
        try with_reducible rfl
      try simp only [Act.put, List.setIfInBounds_toArray, List.set_cons_zero, List.set_cons_succ]
      refine wpAnyH_ready (rs := [15]) (by kernel_rfl) (by simp) ?_
      refine AllReadyH.cons (o := ({ dst := some 81, op := Op.call { callee := Callee.value (Operand.func 12), args := #[Operand.tmp 80], argTypes := #[29] }, type := 9, pos := "laws.go:277", after := #[{ on := 14, ground := Ground.data }, { on := 13, ground := Ground.chain }, { on := 13, ground := Ground.guard }], guard := some (13, true) } : Oper)) rfl (fun K hK => ?_) AllReadyH.nil
      go_simp
      (go_at_call 12; refine (termTextI_any (HK.out _ (HB9.out.trans (Below.mono (And.left (by assumption)) HB9.out.size))) (HE.out _ (HB9.out.trans (Below.mono (And.left (by assumption)) HB9.out.size))).1 ⟨_, _, _, _, _, _, rfl, HU9.out.stays (.of_below (And.left (by assumption)))⟩ (by omega) z HZ.out).mono ?_; rintro e w10 ⟨rfl, hb10⟩)
      refine hK.out _ _ ?_ (fun hHeld1 => ?_)
      · try dsimp only
        exact keep9z hb10 hHeld
      clear hK K
      try simp only [Act.put, List.setIfInBounds_toArray, List.set_cons_zero, List.set_cons_succ]
      refine wpAnyH_ready (rs := [17]) (by kernel_rfl) (by simp) ?_
      refine AllReadyH.cons (o := ({ dst := some 83, op := Op.call { callee := Callee.value (Operand.func 16), args := #[Operand.tmp 82], argTypes := #[29] }, type := 9, pos := "laws.go:277", after := #[{ on := 16, ground := Ground.data }, { on := 15, ground := Ground.chain }, { on := 13, ground := Ground.guard }], guard := some (13, true) } : Oper)) rfl (fun K hK => ?_) AllReadyH.nil
      go_simp
      (go_at_call 16; refine (termTextS_any ⟨_, _, _, _, _, _, rfl, HU9.out.stays (.of_below (And.left (by assumption)))⟩ (by omega) z HZ.out).mono ?_; rintro e w11 ⟨rfl, hb11⟩)
      refine hK.out _ _ ?_ (fun hHeld2 => ?_)
      · try dsimp only
        exact keep9z hb11 hHeld1
      clear hK K
      try simp only [Act.put, List.setIfInBounds_toArray, List.set_cons_zero, List.set_cons_succ]
      refine wpAnyH_take (i := 18) (oi := ({ dst := some 84, op := Op.binOp BinOp.eql 9 (Operand.tmp 81) (Operand.tmp 83) 9, type := 4, pos := "laws.go:277", after := #[{ on := 15, ground := Ground.data }, { on := 17, ground := Ground.data }, { on := 13, ground := Ground.guard }], guard := some (13, true) } : Oper)) (v := ?_) rfl (by kernel_rfl) (by kernel_rfl) (by kernel_rfl) (fun _ _ _ h => h) (Or.inl ⟨by rfl, ?_⟩) (by assumption) ?_
      rotate_left
      · intro w hSw
        try dsimp only at hSw
        go_simp
        try with_reducible rfl
      try simp only [Act.put, List.setIfInBounds_toArray, List.set_cons_zero, List.set_cons_succ]
      refine wpAnyH_take (i := 19) (oi := ({ dst := some 85, op := Op.pick (Operand.tmp 79) (Operand.tmp 84) (Operand.const (Value.bool false)), type := 4, pos := "laws.go:277", after := #[{ on := 13, ground := Ground.data }, { on := 18, ground := Ground.data }], guard := none } : Oper)) (v := ?_) rfl (by kernel_rfl) (by kernel_rfl) (by kernel_rfl) (fun _ _ _ h => h) (Or.inl ⟨by rfl, ?_⟩) (by assumption) ?_
      rotate_left
      · intro w hSw
        try dsimp only at hSw
        go_simp
        try with_reducible rfl
      try simp only [Act.put, List.setIfInBounds_toArray, List.set_cons_zero, List.set_cons_succ]
      refine wpAnyH_take (i := 20) (oi := ({ dst := some 2, op := Op.assign (Operand.tmp 85), type := 4, pos := "laws.go:277", after := #[{ on := 19, ground := Ground.data }, { on := 17, ground := Ground.chain }, { on := 0, ground := Ground.phase }, { on := 1, ground := Ground.phase }, { on := 2, ground := Ground.phase }, { on := 3, ground := Ground.phase }, { on := 4, ground := Ground.phase }, { on := 5, ground := Ground.phase }, { on := 6, ground := Ground.phase }, { on := 7, ground := Ground.phase }, { on := 8, ground := Ground.phase }, { on := 9, ground := Ground.phase }, { on := 10, ground := Ground.phase }, { on := 11, ground := Ground.phase }, { on := 12, ground := Ground.phase }, { on := 13, ground := Ground.phase }, { on := 14, ground := Ground.phase }, { on := 15, ground := Ground.phase }, { on := 16, ground := Ground.phase }, { on := 17, ground := Ground.phase }, { on := 18, ground := Ground.phase }, { on := 19, ground := Ground.phase }], guard := none } : Oper)) (v := ?_) rfl (by kernel_rfl) (by kernel_rfl) (by kernel_rfl) (fun _ _ _ h => h) (Or.inl ⟨by rfl, ?_⟩) (by assumption) ?_
      rotate_left
      · intro w hSw
        try dsimp only at hSw
        go_simp
        try with_reducible rfl
      try simp only [Act.put, List.setIfInBounds_toArray, List.set_cons_zero, List.set_cons_succ]
      refine wpAnyH_done (by kernel_rfl) ?_ _
      refine NoPanic.normal ?_
      try dsimp only at hHeld2
      have HBL := Lib.hid (HB9.out.trans (hHeld2.1.mono HB9.out.size))
      clear hHeld2
      go_wp2_with fail
      go_ret
      exact ⟨rfl, HBL.out⟩
    | true =>
      have hY : Y.Valid ∧ Y.text = y.data.toList := by
        rcases HP7.out with ⟨_, h⟩ | ⟨h, _⟩
        · exact h
        · cases h
      have hf : (Y.text == y.toList) = true := by rw [beq_iff_eq, Lib.toList_data]; exact hY.2
      have HY := Lib.hid hY
      have HWY := Lib.hid (show Y.wt ≤ 1048576 from Nat.le_trans (parsed_wt HP7.out) (by simp only [ByteArray.size] at hys; simp only [Array.length_toList]; omega))
      obtain ⟨d0, d1, d2, d3, d4, d5, d6, d7, d8⟩ := X8
      obtain ⟨g0, g1, g2, g3, g4, g5, g6, g7, g8⟩ := HX9.out
      clear hY
      go_wp2_with fail
      go_region_held3 (fun w' => Below (w9.alloc (.cells (tmC u tp5 tc5 rp5 rc5 p5 c5) 29)).heap.size (w9.alloc (.cells (tmC u tp5 tc5 rp5 rc5 p5 c5) 29)) w' ∧ w'.cell? ⟨w9.heap.size, 0, none⟩ = some (.int .i64 u.kind) ∧ w'.cell? ⟨w9.heap.size, 1, none⟩ = some (.string u.name) ∧ w'.cell? ⟨w9.heap.size, 2, none⟩ = some (.string u.other) ∧ w'.cell? ⟨w9.heap.size, 3, none⟩ = some (.int .i64 u.n) ∧ w'.cell? ⟨w9.heap.size, 4, none⟩ = some (.int .i64 u.ty.kind) ∧ w'.cell? ⟨w9.heap.size, 5, none⟩ = some (.slice tp5 u.ty.args.length tc5) ∧ w'.cell? ⟨w9.heap.size, 6, none⟩ = some (.int .i64 u.res.kind) ∧ w'.cell? ⟨w9.heap.size, 7, none⟩ = some (.slice rp5 u.res.args.length rc5) ∧ w'.cell? ⟨w9.heap.size, 8, none⟩ = some (.slice p5 u.args.length c5) ∧ w'.cell? ⟨w7.heap.size, 0, none⟩ = some (.int .i64 Y.kind) ∧ w'.cell? ⟨w7.heap.size, 1, none⟩ = some (.string Y.name) ∧ w'.cell? ⟨w7.heap.size, 2, none⟩ = some (.string Y.other) ∧ w'.cell? ⟨w7.heap.size, 3, none⟩ = some (.int .i64 Y.n) ∧ w'.cell? ⟨w7.heap.size, 4, none⟩ = some (.int .i64 Y.ty.kind) ∧ w'.cell? ⟨w7.heap.size, 5, none⟩ = some (.slice tp3 Y.ty.args.length tc3) ∧ w'.cell? ⟨w7.heap.size, 6, none⟩ = some (.int .i64 Y.res.kind) ∧ w'.cell? ⟨w7.heap.size, 7, none⟩ = some (.slice rp3 Y.res.args.length rc3) ∧ w'.cell? ⟨w7.heap.size, 8, none⟩ = some (.slice p3 Y.args.length c3))
        (first
          | (go_keep; done)
          | exact ⟨(Below.refl _ _).drew, g0, g1, g2, g3, g4, g5, g6, g7, g8, d0, d1, d2, d3, d4, d5, d6, d7, d8⟩
          | exact keep18z hb11 (by assumption)
          | exact keep18z hb10 (by assumption)
          | exact keep18z hb9b (by assumption))
        (first
          | (go_at_call 7; refine (fmtTermI_any (HK.out _ (HB9.out.trans (Below.mono (And.left (by assumption)) HB9.out.size))) (HE.out _ (HB9.out.trans (Below.mono (And.left (by assumption)) HB9.out.size))).1 ⟨_, _, _, _, _, _, rfl, HT9.out.stays (.of_below (And.left (by assumption)))⟩ (Nat.le_trans HWY.out (by decide)) Y.text (Or.inl ⟨HY.out.1, rfl⟩)).mono ?_; rintro e w9b ⟨rfl, hb9b⟩)
          | (go_at_call 12; refine (termTextI_any (HK.out _ (HB9.out.trans (Below.mono (And.left (by assumption)) HB9.out.size))) (HE.out _ (HB9.out.trans (Below.mono (And.left (by assumption)) HB9.out.size))).1 ⟨_, _, _, _, _, _, rfl, HU9.out.stays (.of_below (And.left (by assumption)))⟩ (by omega) z HZ.out).mono ?_; rintro e w10 ⟨rfl, hb10⟩)
          | (go_at_call 16; refine (termTextS_any ⟨_, _, _, _, _, _, rfl, HU9.out.stays (.of_below (And.left (by assumption)))⟩ (by omega) z HZ.out).mono ?_; rintro e w11 ⟨rfl, hb11⟩))
      rename_i hH
      have HBL := Lib.hid (HB9.out.trans (hH.1.mono HB9.out.size))
      clear hH
      go_wp2_with fail
      go_ret
      exact ⟨rfl, HBL.out⟩
  | true =>
    obtain rfl := HTT.out rfl
    have hval := HOK.out.1 rfl
    have HVAL := Lib.hid hval
    clear hval
    go_wp2_with fail
    refine (eqMI_any ⟨_, _, _, _, _, _, rfl, HT2.out.stays (.of_below HB45.out)⟩ ⟨_, _, _, _, _, _, rfl, HT1b.out.stays (.of_below HB45.out)⟩ (by omega) (by omega)).mono ?_
    rintro e w5b ⟨b, hb, rfl, hb5b⟩
    obtain rfl : b = true := hb.2 rfl
    have hb45b := HB45.out.trans (hb5b.mono HB45.out.size)
    have HB45b := Lib.hid hb45b
    clear g0 g1 g2 g3 g4 g5 g6 g7 g8 d0 d1 d2 d3 d4 d5 d6 d7 d8
    obtain ⟨g0, g1, g2, g3, g4, g5, g6, g7, g8⟩ := HX1b.out.keep hb45b
    have hx0 : x = T.text := by
      rcases HX.out with ⟨_, h⟩ | ⟨h, _⟩
      · exact h
      · exact absurd HVAL.out h
    have HX0 := Lib.hid hx0
    clear hb hb5b hb45b hx0
    go_wp2_with fail
    have HBC := Lib.hid (HB3.out.trans (HB45b.out.mono HB3.out.size))
    refine (termTextI_any (HK.out _ HBC.out) (HE.out _ HBC.out).1 ⟨_, _, _, _, _, _, rfl, HT1b.out.stays (.of_below HB45b.out)⟩ (by omega) x (Or.inl ⟨HVAL.out.2.2, HX0.out⟩)).mono ?_
    rintro e w5c ⟨rfl, hb5c⟩
    have HBX := Lib.hid (HBC.out.trans (hb5c.mono HBC.out.size))
    clear g0 g1 g2 g3 g4 g5 g6 g7 g8 hb5c
    go_wp2_with fail
    refine (drawPT_any _ _ (HV.out.below HBX.out) hl).mono ?_
    rintro e w6 ⟨y, rfl, hys, hb6⟩
    have HB6 := Lib.hid (HBX.out.trans (hb6.mono HBX.out.size))
    clear hb6
    go_wp2_with fail
    refine (parseTermI_any y (by omega) w6 (HK.out _ HB6.out) (HE.out _ HB6.out)).mono ?_
    rintro e w7 ⟨Y, f, v7, rfl, hP7, ⟨tp3, tc3, rp3, rc3, p3, c3, rfl, ho7⟩, hb7⟩
    have hbx7 := al_below w7 (.cells (tmC Y tp3 tc3 rp3 rc3 p3 c3) 29)
    have HX7 := Lib.hid (Bx9.new w7 Y tp3 tc3 rp3 rc3 p3 c3 29)
    have HT7 := Lib.hid ((ho7.keep hbx7).tm)
    have HB7 := Lib.hid ((HB6.out.trans (hb7.mono HB6.out.size)).trans (hbx7.mono (Nat.le_trans HB6.out.size hb7.size)))
    have HP7 := Lib.hid hP7
    clear ho7 hb7 hbx7 hP7
    go_wp2_with fail
    refine (parseTermS_full y (by omega) _).mono ?_
    rintro e w8 ⟨Y2, f2, v8, rfl, hP8, ⟨tp4, tc4, rp4, rc4, p4, c4, rfl, htm8⟩, hb8'⟩
    obtain ⟨rfl, rfl⟩ := parsed_one HP7.out hP8
    have hbx8 := al_below w8 (.cells (tmC Y tp4 tc4 rp4 rc4 p4 c4) 29)
    have hb8 := hb8'.trans (hbx8.mono hb8'.size)
    have HB8 := Lib.hid (HB7.out.trans (hb8.mono HB7.out.size))
    have HX8 := Lib.hid (HX7.out.keep hb8)
    have HT8 := Lib.hid (HT7.out.stays (.of_below hb8))
    clear hb8 hb8' hbx8 htm8 hP8 HX7 HT7
    go_wp2_with fail
    refine (drawTT_any _ _ (HV.out.below HB8.out) hl).mono ?_
    rintro e w9 ⟨v9, u, rfl, huw, ⟨tp5, tc5, rp5, rc5, p5, c5, rfl, hU⟩, hb9⟩
    have hbx9 := al_below w9 (.cells (tmC u tp5 tc5 rp5 rc5 p5 c5) 29)
    have hb99 := hb9.trans (hbx9.mono hb9.size)
    have HB9 := Lib.hid (HB8.out.trans (hb99.mono HB8.out.size))
    have HX9 := Lib.hid (Bx9.new w9 u tp5 tc5 rp5 rc5 p5 c5 29)
    have HU9 := Lib.hid (hU.stays (.of_below hbx9))
    have X8 := HX8.out.keep hb99
    have HT9 := Lib.hid (HT8.out.stays (.of_below hb99))
    obtain ⟨z, hz⟩ : ∃ z : List UInt8, (u.IsT ∧ z = u.text) ∨ (¬ u.IsT ∧ z = []) := by
      by_cases h : u.IsT
      · exact ⟨_, Or.inl ⟨h, rfl⟩⟩
      · exact ⟨_, Or.inr ⟨h, rfl⟩⟩
    have HZ := Lib.hid hz
    clear hU hb9 hbx9 hb99 hz HX8 HT8
    cases f with
    | false =>
      obtain ⟨g0, g1, g2, g3, g4, g5, g6, g7, g8⟩ := HX9.out
      clear X8
      go_wp2_with fail
      refine wp_region_noPanic ?_
      refine wp_region_held_drew (S := (fun w' => Below (w9.alloc (.cells (tmC u tp5 tc5 rp5 rc5 p5 c5) 29)).heap.size (w9.alloc (.cells (tmC u tp5 tc5 rp5 rc5 p5 c5) 29)) w' ∧ w'.cell? ⟨w9.heap.size, 0, none⟩ = some (.int .i64 u.kind) ∧ w'.cell? ⟨w9.heap.size, 1, none⟩ = some (.string u.name) ∧ w'.cell? ⟨w9.heap.size, 2, none⟩ = some (.string u.other) ∧ w'.cell? ⟨w9.heap.size, 3, none⟩ = some (.int .i64 u.n) ∧ w'.cell? ⟨w9.heap.size, 4, none⟩ = some (.int .i64 u.ty.kind) ∧ w'.cell? ⟨w9.heap.size, 5, none⟩ = some (.slice tp5 u.ty.args.length tc5) ∧ w'.cell? ⟨w9.heap.size, 6, none⟩ = some (.int .i64 u.res.kind) ∧ w'.cell? ⟨w9.heap.size, 7, none⟩ = some (.slice rp5 u.res.args.length rc5) ∧ w'.cell? ⟨w9.heap.size, 8, none⟩ = some (.slice p5 u.args.length c5))) (by kernel_rfl) ?_ (fun hHeld => ?_)
      · try dsimp only
        exact ⟨(Below.refl _ _).drew, g0, g1, g2, g3, g4, g5, g6, g7, g8⟩
      refine wpAnyH_take (i := 0) (oi := ({ dst := some 66, op := Op.move (Operand.tmp 9), type := 4, pos := "laws.go:277", after := #[], guard := none } : Oper)) (v := ?_) rfl (by kernel_rfl) (by kernel_rfl) (by kernel_rfl) (fun _ _ _ h => h) (Or.inl ⟨by rfl, ?_⟩) (by assumption) ?_
      rotate_left
      · intro w hSw
        try dsimp only at hSw
        go_simp
        try with_reducible rfl
      try simp only [Act.put, List.setIfInBounds_toArray, List.set_cons_zero, List.set_cons_succ]
      refine wpAnyH_take (i := 1) (oi := ({ dst := some 67, op := Op.move (Operand.tmp 11), type := 4, pos := "laws.go:277", after := #[], guard := none } : Oper)) (v := ?_) rfl (by kernel_rfl) (by kernel_rfl) (by kernel_rfl) (fun _ _ _ h => h) (Or.inl ⟨by rfl, ?_⟩) (by assumption) ?_
      rotate_left
      · intro w hSw
        try dsimp only at hSw
        go_simp
        try with_reducible rfl
      try simp only [Act.put, List.setIfInBounds_toArray, List.set_cons_zero, List.set_cons_succ]
      refine wpAnyH_take (i := 2) (oi := ({ dst := some 68, op := Op.binOp BinOp.eql 4 (Operand.tmp 66) (Operand.tmp 67) 4, type := 4, pos := "laws.go:277", after := #[{ on := 0, ground := Ground.data }, { on := 1, ground := Ground.data }], guard := none } : Oper)) (v := ?_) rfl (by kernel_rfl) (by kernel_rfl) (by kernel_rfl) (fun _ _ _ h => h) (Or.inl ⟨by rfl, ?_⟩) (by assumption) ?_
      rotate_left
      · intro w hSw
        try dsimp only at hSw
        go_simp
        try with_reducible rfl
      try simp only [Act.put, List.setIfInBounds_toArray, List.set_cons_zero, List.set_cons_succ]
      refine wpAnyH_take (i := 3) (oi := ({ dst := some 69, op := Op.move (Operand.tmp 68), type := 4, pos := "laws.go:277", after := #[{ on := 2, ground := Ground.data }], guard := none } : Oper)) (v := ?_) rfl (by kernel_rfl) (by kernel_rfl) (by kernel_rfl) (fun _ _ _ h => h) (Or.inl ⟨by rfl, ?_⟩) (by assumption) ?_
      rotate_left
      · intro w hSw
        try dsimp only at hSw
        go_simp
        try with_reducible rfl
      try simp only [Act.put, List.setIfInBounds_toArray, List.set_cons_zero, List.set_cons_succ]
      refine wpAnyH_take (i := 4) (oi := ({ dst := some 70, op := Op.move (Operand.tmp 9), type := 4, pos := "laws.go:277", after := #[{ on := 3, ground := Ground.guard }], guard := some (3, true) } : Oper)) (v := ?_) rfl (by kernel_rfl) (by kernel_rfl) (by kernel_rfl) (fun _ _ _ h => h) (Or.inl ⟨by rfl, ?_⟩) (by assumption) ?_
      rotate_left
      · intro w hSw
        try dsimp only at hSw
        go_simp
        try with_reducible rfl
      try simp only [Act.put, List.setIfInBounds_toArray, List.set_cons_zero, List.set_cons_succ]
      refine wpAnyH_take (i := 5) (oi := ({ dst := some 71, op := Op.unOp UnOp.not 4 (Operand.tmp 70), type := 4, pos := "laws.go:277", after := #[{ on := 4, ground := Ground.data }, { on := 3, ground := Ground.guard }], guard := some (3, true) } : Oper)) (v := ?_) rfl (by kernel_rfl) (by kernel_rfl) (by kernel_rfl) (fun _ _ _ h => h) (Or.inl ⟨by rfl, ?_⟩) (by assumption) ?_
      rotate_left
      · intro w hSw
        try dsimp only at hSw
        go_simp
        try with_reducible rfl
      try simp only [Act.put, List.setIfInBounds_toArray, List.set_cons_zero, List.set_cons_succ]
      refine wpAnyH_take (i := 6) (oi := ({ dst := some 72, op := Op.move (Operand.tmp 71), type := 4, pos := "laws.go:277", after := #[{ on := 5, ground := Ground.data }, { on := 3, ground := Ground.chain }, { on := 3, ground := Ground.guard }], guard := some (3, true) } : Oper)) (v := ?_) rfl (by kernel_rfl) (by kernel_rfl) (by kernel_rfl) (fun _ _ _ h => h) (Or.inl ⟨by rfl, ?_⟩) (by assumption) ?_
      rotate_left
      · intro w hSw
        try dsimp only at hSw
        go_simp
        try with_reducible rfl
      try simp only [Act.put, List.setIfInBounds_toArray, List.set_cons_zero, List.set_cons_succ]
      refine wpAnyH_take (i := 7) (oi := ({ dst := some 73, op := Op.load 29 (Operand.tmp 8), type := 29, pos := "laws.go:277", after := #[{ on := 6, ground := Ground.guard }], guard := some (6, false) } : Oper)) (v := undef) rfl (by kernel_rfl) (by kernel_rfl) (by kernel_rfl) (fun _ _ _ h => h) (Or.inr ⟨by rfl, rfl⟩) (by assumption) ?_
      try simp only [Act.put, List.setIfInBounds_toArray, List.set_cons_zero, List.set_cons_succ]
      refine wpAnyH_take (i := 8) (oi := ({ dst := some 74, op := Op.call { callee := Callee.value (Operand.func 7), args := #[Operand.tmp 73], argTypes := #[29] }, type := 9, pos := "laws.go:277", after := #[{ on := 7, ground := Ground.data }, { on := 6, ground := Ground.chain }, { on := 6, ground := Ground.guard }], guard := some (6, false) } : Oper)) (v := undef) rfl (by kernel_rfl) (by kernel_rfl) (by kernel_rfl) (fun _ _ _ h => h) (Or.inr ⟨by rfl, rfl⟩) (by assumption) ?_
      try simp only [Act.put, List.setIfInBounds_toArray, List.set_cons_zero, List.set_cons_succ]
      refine wpAnyH_take (i := 9) (oi := ({ dst := some 75, op := Op.move (Operand.tmp 7), type := 9, pos := "laws.go:277", after := #[{ on := 6, ground := Ground.guard }], guard := some (6, false) } : Oper)) (v := undef) rfl (by kernel_rfl) (by kernel_rfl) (by kernel_rfl) (fun _ _ _ h => h) (Or.inr ⟨by rfl, rfl⟩) (by assumption) ?_
      try simp only [Act.put, List.setIfInBounds_toArray, List.set_cons_zero, List.set_cons_succ]
      refine wpAnyH_take (i := 10) (oi := ({ dst := some 76, op := Op.binOp BinOp.eql 9 (Operand.tmp 74) (Operand.tmp 75) 9, type := 4, pos := "laws.go:277", after := #[{ on := 8, ground := Ground.data }, { on := 9, ground := Ground.data }, { on := 6, ground := Ground.guard }], guard := some (6, false) } : Oper)) (v := undef) rfl (by kernel_rfl) (by kernel_rfl) (by kernel_rfl) (fun _ _ _ h => h) (Or.inr ⟨by rfl, rfl⟩) (by assumption) ?_
      try simp only [Act.put, List.setIfInBounds_toArray, List.set_cons_zero, List.set_cons_succ]
      refine wpAnyH_take (i := 11) (oi := ({ dst := some 77, op := Op.pick (Operand.tmp 72) (Operand.const (Value.bool true)) (Operand.tmp 76), type := 4, pos := "laws.go:277", after := #[{ on := 6, ground := Ground.data }, { on := 10, ground := Ground.data }, { on := 3, ground := Ground.guard }], guard := some (3, true) } : Oper)) (v := ?_) rfl (by kernel_rfl) (by kernel_rfl) (by kernel_rfl) (fun _ _ _ h => h) (Or.inl ⟨by rfl, ?_⟩) (by assumption) ?_
      rotate_left
      · intro w hSw
        try dsimp only at hSw
        go_simp
        try with_reducible rfl
      try simp only [Act.put, List.setIfInBounds_toArray, List.set_cons_zero, List.set_cons_succ]
      refine wpAnyH_take (i := 12) (oi := ({ dst := some 78, op := Op.pick (Operand.tmp 69) (Operand.tmp 77) (Operand.const (Value.bool false)), type := 4, pos := "laws.go:277", after := #[{ on := 3, ground := Ground.data }, { on := 11, ground := Ground.data }], guard := none } : Oper)) (v := ?_) rfl (by kernel_rfl) (by kernel_rfl) (by kernel_rfl) (fun _ _ _ h => h) (Or.inl ⟨by rfl, ?_⟩) (by assumption) ?_
      rotate_left
      · intro w hSw
        try dsimp only at hSw
        go_simp
        try with_reducible rfl
      try simp only [Act.put, List.setIfInBounds_toArray, List.set_cons_zero, List.set_cons_succ]
      refine wpAnyH_take (i := 13) (oi := ({ dst := some 79, op := Op.move (Operand.tmp 78), type := 4, pos := "laws.go:277", after := #[{ on := 12, ground := Ground.data }, { on := 8, ground := Ground.chain }], guard := none } : Oper)) (v := ?_) rfl (by kernel_rfl) (by kernel_rfl) (by kernel_rfl) (fun _ _ _ h => h) (Or.inl ⟨by rfl, ?_⟩) (by assumption) ?_
      rotate_left
      · intro w hSw
        try dsimp only at hSw
        go_simp
        try with_reducible rfl
      try simp only [Act.put, List.setIfInBounds_toArray, List.set_cons_zero, List.set_cons_succ]
      refine wpAnyH_take (i := 14) (oi := ({ dst := some 80, op := Op.load 29 (Operand.tmp 12), type := 29, pos := "laws.go:277", after := #[{ on := 13, ground := Ground.guard }], guard := some (13, true) } : Oper)) (v := ?_) rfl (by kernel_rfl) (by kernel_rfl) (by kernel_rfl) (fun _ _ _ h => h) (Or.inl ⟨by rfl, ?_⟩) (by assumption) ?_
      rotate_left
      · intro w hSw
        try dsimp only at hSw
        go_simp
        try with_reducible rfl
      try simp only [Act.put, List.setIfInBounds_toArray, List.set_cons_zero, List.set_cons_succ]
      refine wpAnyH_take (i := 16) (oi := ({ dst := some 82, op := Op.load 29 (Operand.tmp 12), type := 29, pos := "laws.go:277", after := #[{ on := 13, ground := Ground.guard }], guard := some (13, true) } : Oper)) (v := ?_) rfl (by kernel_rfl) (by kernel_rfl) (by kernel_rfl) (fun _ _ _ h => h) (Or.inl ⟨by rfl, ?_⟩) (by assumption) ?_
      rotate_left
      · intro w hSw
        try dsimp only at hSw
        go_simp
        try with_reducible rfl
      try simp only [Act.put, List.setIfInBounds_toArray, List.set_cons_zero, List.set_cons_succ]
      refine wpAnyH_ready (rs := [15]) (by kernel_rfl) (by simp) ?_
      refine AllReadyH.cons (o := ({ dst := some 81, op := Op.call { callee := Callee.value (Operand.func 12), args := #[Operand.tmp 80], argTypes := #[29] }, type := 9, pos := "laws.go:277", after := #[{ on := 14, ground := Ground.data }, { on := 13, ground := Ground.chain }, { on := 13, ground := Ground.guard }], guard := some (13, true) } : Oper)) rfl (fun K hK => ?_) AllReadyH.nil
      go_simp
      (go_at_call 12; refine (termTextI_any (HK.out _ (HB9.out.trans (Below.mono (And.left (by assumption)) HB9.out.size))) (HE.out _ (HB9.out.trans (Below.mono (And.left (by assumption)) HB9.out.size))).1 ⟨_, _, _, _, _, _, rfl, HU9.out.stays (.of_below (And.left (by assumption)))⟩ (by omega) z HZ.out).mono ?_; rintro e w10 ⟨rfl, hb10⟩)
      refine hK.out _ _ ?_ (fun hHeld1 => ?_)
      · try dsimp only
        exact keep9z hb10 hHeld
      clear hK K
      try simp only [Act.put, List.setIfInBounds_toArray, List.set_cons_zero, List.set_cons_succ]
      refine wpAnyH_ready (rs := [17]) (by kernel_rfl) (by simp) ?_
      refine AllReadyH.cons (o := ({ dst := some 83, op := Op.call { callee := Callee.value (Operand.func 16), args := #[Operand.tmp 82], argTypes := #[29] }, type := 9, pos := "laws.go:277", after := #[{ on := 16, ground := Ground.data }, { on := 15, ground := Ground.chain }, { on := 13, ground := Ground.guard }], guard := some (13, true) } : Oper)) rfl (fun K hK => ?_) AllReadyH.nil
      go_simp
      (go_at_call 16; refine (termTextS_any ⟨_, _, _, _, _, _, rfl, HU9.out.stays (.of_below (And.left (by assumption)))⟩ (by omega) z HZ.out).mono ?_; rintro e w11 ⟨rfl, hb11⟩)
      refine hK.out _ _ ?_ (fun hHeld2 => ?_)
      · try dsimp only
        exact keep9z hb11 hHeld1
      clear hK K
      try simp only [Act.put, List.setIfInBounds_toArray, List.set_cons_zero, List.set_cons_succ]
      refine wpAnyH_take (i := 18) (oi := ({ dst := some 84, op := Op.binOp BinOp.eql 9 (Operand.tmp 81) (Operand.tmp 83) 9, type := 4, pos := "laws.go:277", after := #[{ on := 15, ground := Ground.data }, { on := 17, ground := Ground.data }, { on := 13, ground := Ground.guard }], guard := some (13, true) } : Oper)) (v := ?_) rfl (by kernel_rfl) (by kernel_rfl) (by kernel_rfl) (fun _ _ _ h => h) (Or.inl ⟨by rfl, ?_⟩) (by assumption) ?_
      rotate_left
      · intro w hSw
        try dsimp only at hSw
        go_simp
        try with_reducible rfl
      try simp only [Act.put, List.setIfInBounds_toArray, List.set_cons_zero, List.set_cons_succ]
      refine wpAnyH_take (i := 19) (oi := ({ dst := some 85, op := Op.pick (Operand.tmp 79) (Operand.tmp 84) (Operand.const (Value.bool false)), type := 4, pos := "laws.go:277", after := #[{ on := 13, ground := Ground.data }, { on := 18, ground := Ground.data }], guard := none } : Oper)) (v := ?_) rfl (by kernel_rfl) (by kernel_rfl) (by kernel_rfl) (fun _ _ _ h => h) (Or.inl ⟨by rfl, ?_⟩) (by assumption) ?_
      rotate_left
      · intro w hSw
        try dsimp only at hSw
        go_simp
        try with_reducible rfl
      try simp only [Act.put, List.setIfInBounds_toArray, List.set_cons_zero, List.set_cons_succ]
      refine wpAnyH_take (i := 20) (oi := ({ dst := some 2, op := Op.assign (Operand.tmp 85), type := 4, pos := "laws.go:277", after := #[{ on := 19, ground := Ground.data }, { on := 17, ground := Ground.chain }, { on := 0, ground := Ground.phase }, { on := 1, ground := Ground.phase }, { on := 2, ground := Ground.phase }, { on := 3, ground := Ground.phase }, { on := 4, ground := Ground.phase }, { on := 5, ground := Ground.phase }, { on := 6, ground := Ground.phase }, { on := 7, ground := Ground.phase }, { on := 8, ground := Ground.phase }, { on := 9, ground := Ground.phase }, { on := 10, ground := Ground.phase }, { on := 11, ground := Ground.phase }, { on := 12, ground := Ground.phase }, { on := 13, ground := Ground.phase }, { on := 14, ground := Ground.phase }, { on := 15, ground := Ground.phase }, { on := 16, ground := Ground.phase }, { on := 17, ground := Ground.phase }, { on := 18, ground := Ground.phase }, { on := 19, ground := Ground.phase }], guard := none } : Oper)) (v := ?_) rfl (by kernel_rfl) (by kernel_rfl) (by kernel_rfl) (fun _ _ _ h => h) (Or.inl ⟨by rfl, ?_⟩) (by assumption) ?_
      rotate_left
      · intro w hSw
        try dsimp only at hSw
        go_simp
        try with_reducible rfl
      try simp only [Act.put, List.setIfInBounds_toArray, List.set_cons_zero, List.set_cons_succ]
      refine wpAnyH_done (by kernel_rfl) ?_ _
      refine NoPanic.normal ?_
      try dsimp only at hHeld2
      have HBL := Lib.hid (HB9.out.trans (hHeld2.1.mono HB9.out.size))
      clear hHeld2
      go_wp2_with fail
      go_ret
      exact ⟨rfl, HBL.out⟩
    | true =>
      have hY : Y.Valid ∧ Y.text = y.data.toList := by
        rcases HP7.out with ⟨_, h⟩ | ⟨h, _⟩
        · exact h
        · cases h
      have hf : (Y.text == y.toList) = true := by rw [beq_iff_eq, Lib.toList_data]; exact hY.2
      have HY := Lib.hid hY
      have HWY := Lib.hid (show Y.wt ≤ 1048576 from Nat.le_trans (parsed_wt HP7.out) (by simp only [ByteArray.size] at hys; simp only [Array.length_toList]; omega))
      obtain ⟨d0, d1, d2, d3, d4, d5, d6, d7, d8⟩ := X8
      obtain ⟨g0, g1, g2, g3, g4, g5, g6, g7, g8⟩ := HX9.out
      clear hY
      go_wp2_with fail
      go_region_held3 (fun w' => Below (w9.alloc (.cells (tmC u tp5 tc5 rp5 rc5 p5 c5) 29)).heap.size (w9.alloc (.cells (tmC u tp5 tc5 rp5 rc5 p5 c5) 29)) w' ∧ w'.cell? ⟨w9.heap.size, 0, none⟩ = some (.int .i64 u.kind) ∧ w'.cell? ⟨w9.heap.size, 1, none⟩ = some (.string u.name) ∧ w'.cell? ⟨w9.heap.size, 2, none⟩ = some (.string u.other) ∧ w'.cell? ⟨w9.heap.size, 3, none⟩ = some (.int .i64 u.n) ∧ w'.cell? ⟨w9.heap.size, 4, none⟩ = some (.int .i64 u.ty.kind) ∧ w'.cell? ⟨w9.heap.size, 5, none⟩ = some (.slice tp5 u.ty.args.length tc5) ∧ w'.cell? ⟨w9.heap.size, 6, none⟩ = some (.int .i64 u.res.kind) ∧ w'.cell? ⟨w9.heap.size, 7, none⟩ = some (.slice rp5 u.res.args.length rc5) ∧ w'.cell? ⟨w9.heap.size, 8, none⟩ = some (.slice p5 u.args.length c5) ∧ w'.cell? ⟨w7.heap.size, 0, none⟩ = some (.int .i64 Y.kind) ∧ w'.cell? ⟨w7.heap.size, 1, none⟩ = some (.string Y.name) ∧ w'.cell? ⟨w7.heap.size, 2, none⟩ = some (.string Y.other) ∧ w'.cell? ⟨w7.heap.size, 3, none⟩ = some (.int .i64 Y.n) ∧ w'.cell? ⟨w7.heap.size, 4, none⟩ = some (.int .i64 Y.ty.kind) ∧ w'.cell? ⟨w7.heap.size, 5, none⟩ = some (.slice tp3 Y.ty.args.length tc3) ∧ w'.cell? ⟨w7.heap.size, 6, none⟩ = some (.int .i64 Y.res.kind) ∧ w'.cell? ⟨w7.heap.size, 7, none⟩ = some (.slice rp3 Y.res.args.length rc3) ∧ w'.cell? ⟨w7.heap.size, 8, none⟩ = some (.slice p3 Y.args.length c3))
        (first
          | (go_keep; done)
          | exact ⟨(Below.refl _ _).drew, g0, g1, g2, g3, g4, g5, g6, g7, g8, d0, d1, d2, d3, d4, d5, d6, d7, d8⟩
          | exact keep18z hb11 (by assumption)
          | exact keep18z hb10 (by assumption)
          | exact keep18z hb9b (by assumption))
        (first
          | (go_at_call 7; refine (fmtTermI_any (HK.out _ (HB9.out.trans (Below.mono (And.left (by assumption)) HB9.out.size))) (HE.out _ (HB9.out.trans (Below.mono (And.left (by assumption)) HB9.out.size))).1 ⟨_, _, _, _, _, _, rfl, HT9.out.stays (.of_below (And.left (by assumption)))⟩ (Nat.le_trans HWY.out (by decide)) Y.text (Or.inl ⟨HY.out.1, rfl⟩)).mono ?_; rintro e w9b ⟨rfl, hb9b⟩)
          | (go_at_call 12; refine (termTextI_any (HK.out _ (HB9.out.trans (Below.mono (And.left (by assumption)) HB9.out.size))) (HE.out _ (HB9.out.trans (Below.mono (And.left (by assumption)) HB9.out.size))).1 ⟨_, _, _, _, _, _, rfl, HU9.out.stays (.of_below (And.left (by assumption)))⟩ (by omega) z HZ.out).mono ?_; rintro e w10 ⟨rfl, hb10⟩)
          | (go_at_call 16; refine (termTextS_any ⟨_, _, _, _, _, _, rfl, HU9.out.stays (.of_below (And.left (by assumption)))⟩ (by omega) z HZ.out).mono ?_; rintro e w11 ⟨rfl, hb11⟩))
      rename_i hH
      have HBL := Lib.hid (HB9.out.trans (hH.1.mono HB9.out.size))
      clear hH
      go_wp2_with fail
      go_ret
      exact ⟨rfl, HBL.out⟩
theorem lawFTT_any (a : Option Addr) (len cap : Nat) (w : World) (hl : len ≤ 9223372036854775807) (hv : Bytes w (.slice a len cap)) (hka : KA w) (he : Env w) :
    Calls Tryz.prog 3 #[.slice a len cap] w fun e w' => e = .returned (.bool true) ∧ Below w.heap.size w w' := by
  by_cases h : 1048576 < (len : Int)
  · exact lawFTT_big a len cap w hl h
  · exact lawFTT_small a len cap w (by omega) hv hka he
end Go.Proofs.YtjobmgbchpoheaaGreatDoor
