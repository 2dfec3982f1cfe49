/-
  Several texts of the proof in one (each says below what it holds): TmFieldsOth TmFields TmIsT TmCopy.
-/
import Derived.Test.YtnciibngcaajgaaDoorH4
import Derived.Test.YtnciibngcaajgaaDoorH2
import Derived.Test.YtnciibngcaajgaaDoorH3
import Derived.Deep.RegionHeld3
/- TmFieldsOth: The contract of the model's l5Fields: one sort of kinds. -/
namespace Go.Proofs.YtnciibngcaajgaaDoor
open Go Go.RowKit

set_option maxRecDepth 100000 in
set_option maxHeartbeats 8000000 in
theorem fieldsSOth {C : Nat → Prop} (t : Tm) (tp : Option Addr) (tc : Nat) (rp : Option Addr) (rc : Nat) (p : Option Addr) (c : Nat) (w : World) (hT : TM' w C t tp tc rp rc p c) (hn : t.wt ≤ 1048576) (k : ¬ t.kind = 6 ∧ ¬ t.kind = 9) :
    Calls Tryd.prog 36 #[tmV t tp tc rp rc p c] w (Tells t.FieldsOk w) := by
  have hw := t.wt_eq
  have n1 : nodesS t.ty.args ≤ 1048576 := by omega
  have n2 : nodesS t.res.args ≤ 1048576 := by omega
  have HB := Lib.hid (al_below w (.cells (tmC t tp tc rp rc p c) 29))
  have HX := Lib.hid (Bx9.new w t tp tc rp rc p c 29)
  have HTY := Lib.hid (fun (W : World) (hW : Below w.heap.size w W) => (⟨_, rfl, hT.ty.keep hW⟩ : TT W C t.ty (.agg #[.int .i64 t.ty.kind, .slice tp t.ty.args.length tc])))
  have HRS := Lib.hid (fun (W : World) (hW : Below w.heap.size w W) => (⟨_, rfl, hT.res.keep hW⟩ : TT W C t.res (.agg #[.int .i64 t.res.kind, .slice rp t.res.args.length rc])))
  have HNM := Lib.hid (fun W => namesS_any t tp tc rp rc p c W (by omega) (by omega))
  clear hT hw hn
  cases hvt : t.ty.valid
  all_goals
    cases hvr : t.res.valid
  all_goals
    have HVT := Lib.hid hvt
    have HVR0 := Lib.hid hvr
    have HVTC := Lib.hid (fun W hW => valid_lit (HTY.out W hW) n1 _ HVT.out)
    have HVRC := Lib.hid (fun W hW => valid_lit (HRS.out W hW) n2 _ HVR0.out)
    clear hvt hvr
  all_goals
    go_enter Tryd.func36, Tryd.ntmps36
  · obtain ⟨k6, k9⟩ := k
    have HK6 := Lib.hid k6
    have HK9 := Lib.hid k9
    have e6 : (t.kind == 6) = false := by simpa using k6
    have e9 : (t.kind == 9) = false := by simpa using k9
    have n9 : (t.kind != 9) = true := by simpa using k9
    clear k6 k9
    go_wp2_with fail
    refine (HVTC.out _ HB.out).mono ?_
    rintro e w1 ⟨rfl, hb1⟩
    have HB1 := Lib.hid (HB.out.trans (hb1.mono HB.out.size))
    have HX1 := Lib.hid (HX.out.keep hb1)
    obtain ⟨g0, g1, g2, g3, g4, g5, g6, g7, g8⟩ := HX.out.keep hb1
    clear hb1
    by_cases z1 : t.ty.kind = 0 ∧ t.ty.args.length = 0
    · have HZ1 := Lib.hid z1
      have HZC1 := Lib.hid (fun W => zeroS_yes (p := tp) (c := tc) z1 W)
      clear z1
      go_wp2_with fail
      refine (HZC1.out _).mono ?_
      rintro e w2 ⟨rfl, hb2⟩
      have HB2 := Lib.hid (HB1.out.trans (hb2.mono HB1.out.size))
      have HX2 := Lib.hid (HX1.out.keep hb2)
      clear g0 g1 g2 g3 g4 g5 g6 g7 g8
      obtain ⟨g0, g1, g2, g3, g4, g5, g6, g7, g8⟩ := HX1.out.keep hb2
      clear hb2
      have HVR := Lib.hid (HVRC.out w2.drew HB2.out.drew)
      by_cases z2 : t.res.kind = 0 ∧ t.res.args.length = 0
      · have HZ2 := Lib.hid z2
        have HZC := Lib.hid (fun W => zeroS_yes (p := rp) (c := rc) z2 W)
        clear z2
        go_wp2_with fail
        go_region_held3 (fun w' => w'.cell? ⟨w.heap.size, 0, none⟩ = some (.int .i64 t.kind) ∧ w'.cell? ⟨w.heap.size, 6, none⟩ = some (.int .i64 t.res.kind) ∧ w'.cell? ⟨w.heap.size, 7, none⟩ = some (.slice rp t.res.args.length rc) ∧ Below w.heap.size w w')
          (first
            | (go_keep; done)
            | exact ⟨g0, g6, g7, HB2.out.drew⟩
            | exact keepR hb6 (by assumption)
            | exact keepR hb5 (by assumption))
          (first
            | (go_at_call 61; refine HVR.out.mono ?_; rintro e w5 ⟨rfl, hb5⟩)
            | (go_at_call 62; refine (HZC.out _).mono ?_; rintro e w6 ⟨rfl, hb6⟩))
        rename_i hH
        clear hH
        have hbd : Below w2.heap.size w2 _ := ((Below.refl _ _).drew.trans hb5).trans (hb6.mono (by have := hb5.size; exact this))
        have HBW := Lib.hid (HB2.out.trans (hbd.mono HB2.out.size))
        clear g0 g1 g2 g3 g4 g5 g6 g7 g8
        obtain ⟨g0, g1, g2, g3, g4, g5, g6, g7, g8⟩ := HX2.out.keep hbd
        clear hbd hb5 hb6
        by_cases m2 : t.kind = 2
        · have HM2 := Lib.hid m2
          have ma := Int.le_of_eq m2
          have mb := Int.le_of_eq m2.symm
          clear m2
          by_cases hin : 0 ≤ t.n ∧ t.n ≤ 10006
          · have hd : decide (0 ≤ t.n ∧ t.n ≤ 10006) = true := decide_eq_true hin
            have HIN := Lib.hid hin
            clear hin
            go_wp2_with fail
            refine (in_any _ _ _ _).mono ?_
            rintro e w' ⟨rfl, rfl⟩
            go_wp2_with fail
            refine (HNM.out _).mono ?_
            rintro e w9 ⟨r, hr, rfl, hb9⟩
            have HR9 := Lib.hid hr
            have HB9 := Lib.hid (HBW.out.trans (hb9.mono HBW.out.size))
            clear hr hb9
            go_wp2_with fail
            go_ret
            exact ⟨_, HR9.out.trans ⟨fun h => ⟨⟨fun e => e.elim (fun e => absurd e HK6.out) (fun e => absurd e HK9.out), fun e => by rw [HVT.out] at e; cases e⟩, Or.inr HZ1.out, ⟨(fun e => absurd e HK9.out), fun e => by rw [HVR0.out] at e; cases e⟩, Or.inr HZ2.out, by rw [Tm.most, if_pos HM2.out]; exact HIN.out, h⟩, fun h => h.names⟩, rfl, HB9.out⟩
          · have hd : decide (0 ≤ t.n ∧ t.n ≤ 10006) = false := decide_eq_false hin
            have HIN := Lib.hid hin
            clear hin
            go_wp2_with fail
            refine (in_any _ _ _ _).mono ?_
            rintro e w' ⟨rfl, rfl⟩
            go_wp2_with fail
            go_ret
            exact ⟨_, lit_f (fun h => HIN.out (by have := h.n; rwa [Tm.most, if_pos HM2.out] at this)), rfl, HBW.out⟩
        have HM2 := Lib.hid m2
        by_cases m3 : t.kind = 3
        · have HM3 := Lib.hid m3
          have ma := Int.le_of_eq m3
          have mb := Int.le_of_eq m3.symm
          clear m3
          by_cases hin : 0 ≤ t.n ∧ t.n ≤ 1
          · have hd : decide (0 ≤ t.n ∧ t.n ≤ 1) = true := decide_eq_true hin
            have HIN := Lib.hid hin
            clear hin
            go_wp2_with fail
            refine (in_any _ _ _ _).mono ?_
            rintro e w' ⟨rfl, rfl⟩
            go_wp2_with fail
            refine (HNM.out _).mono ?_
            rintro e w9 ⟨r, hr, rfl, hb9⟩
            have HR9 := Lib.hid hr
            have HB9 := Lib.hid (HBW.out.trans (hb9.mono HBW.out.size))
            clear hr hb9
            go_wp2_with fail
            go_ret
            exact ⟨_, HR9.out.trans ⟨fun h => ⟨⟨fun e => e.elim (fun e => absurd e HK6.out) (fun e => absurd e HK9.out), fun e => by rw [HVT.out] at e; cases e⟩, Or.inr HZ1.out, ⟨(fun e => absurd e HK9.out), fun e => by rw [HVR0.out] at e; cases e⟩, Or.inr HZ2.out, by rw [Tm.most, if_neg HM2.out, if_pos HM3.out]; exact HIN.out, h⟩, fun h => h.names⟩, rfl, HB9.out⟩
          · have hd : decide (0 ≤ t.n ∧ t.n ≤ 1) = false := decide_eq_false hin
            have HIN := Lib.hid hin
            clear hin
            go_wp2_with fail
            refine (in_any _ _ _ _).mono ?_
            rintro e w' ⟨rfl, rfl⟩
            go_wp2_with fail
            go_ret
            exact ⟨_, lit_f (fun h => HIN.out (by have := h.n; rwa [Tm.most, if_neg HM2.out, if_pos HM3.out] at this)), rfl, HBW.out⟩
        have HM3 := Lib.hid m3
        by_cases hin : 0 ≤ t.n ∧ t.n ≤ 0
        · have hd : decide (0 ≤ t.n ∧ t.n ≤ 0) = true := decide_eq_true hin
          have HIN := Lib.hid hin
          clear hin
          go_wp2_with fail
          refine (in_any _ _ _ _).mono ?_
          rintro e w' ⟨rfl, rfl⟩
          go_wp2_with fail
          refine (HNM.out _).mono ?_
          rintro e w9 ⟨r, hr, rfl, hb9⟩
          have HR9 := Lib.hid hr
          have HB9 := Lib.hid (HBW.out.trans (hb9.mono HBW.out.size))
          clear hr hb9
          go_wp2_with fail
          go_ret
          exact ⟨_, HR9.out.trans ⟨fun h => ⟨⟨fun e => e.elim (fun e => absurd e HK6.out) (fun e => absurd e HK9.out), fun e => by rw [HVT.out] at e; cases e⟩, Or.inr HZ1.out, ⟨(fun e => absurd e HK9.out), fun e => by rw [HVR0.out] at e; cases e⟩, Or.inr HZ2.out, by rw [Tm.most, if_neg HM2.out, if_neg HM3.out]; exact HIN.out, h⟩, fun h => h.names⟩, rfl, HB9.out⟩
        · have hd : decide (0 ≤ t.n ∧ t.n ≤ 0) = false := decide_eq_false hin
          have HIN := Lib.hid hin
          clear hin
          go_wp2_with fail
          refine (in_any _ _ _ _).mono ?_
          rintro e w' ⟨rfl, rfl⟩
          go_wp2_with fail
          go_ret
          exact ⟨_, lit_f (fun h => HIN.out (by have := h.n; rwa [Tm.most, if_neg HM2.out, if_neg HM3.out] at this)), rfl, HBW.out⟩
      · have HZ2 := Lib.hid z2
        have HZC := Lib.hid (fun W => zeroS_no (p := rp) (c := rc) z2 W)
        clear z2
        go_wp2_with fail
        go_region_held3 (fun w' => w'.cell? ⟨w.heap.size, 0, none⟩ = some (.int .i64 t.kind) ∧ w'.cell? ⟨w.heap.size, 6, none⟩ = some (.int .i64 t.res.kind) ∧ w'.cell? ⟨w.heap.size, 7, none⟩ = some (.slice rp t.res.args.length rc) ∧ Below w.heap.size w w')
          (first
            | (go_keep; done)
            | exact ⟨g0, g6, g7, HB2.out.drew⟩
            | exact keepR hb6 (by assumption)
            | exact keepR hb5 (by assumption))
          (first
            | (go_at_call 61; refine HVR.out.mono ?_; rintro e w5 ⟨rfl, hb5⟩)
            | (go_at_call 62; refine (HZC.out _).mono ?_; rintro e w6 ⟨rfl, hb6⟩))
        rename_i hH
        clear hH
        have hbd : Below w2.heap.size w2 _ := ((Below.refl _ _).drew.trans hb5).trans (hb6.mono (by have := hb5.size; exact this))
        have HBW := Lib.hid (HB2.out.trans (hbd.mono HB2.out.size))
        clear g0 g1 g2 g3 g4 g5 g6 g7 g8
        obtain ⟨g0, g1, g2, g3, g4, g5, g6, g7, g8⟩ := HX2.out.keep hbd
        clear hbd hb5 hb6
        go_wp2_with fail
        go_ret
        exact ⟨_, lit_f (fun h => h.res2.elim HK9.out HZ2.out), rfl, HBW.out⟩
    · have HZ1 := Lib.hid z1
      have HZC1 := Lib.hid (fun W => zeroS_no (p := tp) (c := tc) z1 W)
      clear z1
      go_wp2_with fail
      refine (HZC1.out _).mono ?_
      rintro e w2 ⟨rfl, hb2⟩
      have HB2 := Lib.hid (HB1.out.trans (hb2.mono HB1.out.size))
      have HX2 := Lib.hid (HX1.out.keep hb2)
      clear g0 g1 g2 g3 g4 g5 g6 g7 g8
      obtain ⟨g0, g1, g2, g3, g4, g5, g6, g7, g8⟩ := HX1.out.keep hb2
      clear hb2
      go_wp2_with fail
      go_ret
      exact ⟨_, lit_f (fun h => h.ty2.elim (fun e => e.elim HK6.out HK9.out) HZ1.out), rfl, HB2.out⟩
  · obtain ⟨k6, k9⟩ := k
    have HK6 := Lib.hid k6
    have HK9 := Lib.hid k9
    have e6 : (t.kind == 6) = false := by simpa using k6
    have e9 : (t.kind == 9) = false := by simpa using k9
    have n9 : (t.kind != 9) = true := by simpa using k9
    clear k6 k9
    go_wp2_with fail
    refine (HVTC.out _ HB.out).mono ?_
    rintro e w1 ⟨rfl, hb1⟩
    have HB1 := Lib.hid (HB.out.trans (hb1.mono HB.out.size))
    have HX1 := Lib.hid (HX.out.keep hb1)
    obtain ⟨g0, g1, g2, g3, g4, g5, g6, g7, g8⟩ := HX.out.keep hb1
    clear hb1
    by_cases z1 : t.ty.kind = 0 ∧ t.ty.args.length = 0
    · have HZ1 := Lib.hid z1
      have HZC1 := Lib.hid (fun W => zeroS_yes (p := tp) (c := tc) z1 W)
      clear z1
      go_wp2_with fail
      refine (HZC1.out _).mono ?_
      rintro e w2 ⟨rfl, hb2⟩
      have HB2 := Lib.hid (HB1.out.trans (hb2.mono HB1.out.size))
      have HX2 := Lib.hid (HX1.out.keep hb2)
      clear g0 g1 g2 g3 g4 g5 g6 g7 g8
      obtain ⟨g0, g1, g2, g3, g4, g5, g6, g7, g8⟩ := HX1.out.keep hb2
      clear hb2
      have HVR := Lib.hid (HVRC.out w2.drew HB2.out.drew)
      go_wp2_with fail
      refine wp_region_noPanic ?_
      refine wp_region_held_drew (S := (fun w' => w'.cell? ⟨w.heap.size, 0, none⟩ = some (.int .i64 t.kind) ∧ w'.cell? ⟨w.heap.size, 6, none⟩ = some (.int .i64 t.res.kind) ∧ w'.cell? ⟨w.heap.size, 7, none⟩ = some (.slice rp t.res.args.length rc) ∧ Below w.heap.size w w')) (by kernel_rfl) ?_ (fun hHeld => ?_)
      · try dsimp only
        exact ⟨g0, g6, g7, HB2.out.drew⟩
      refine wpAnyH_take (i := 0) (oi := ({ dst := some 28, op := Op.fieldAddr 29 (Operand.tmp 1) 0, type := 0, pos := "l05_term.go:67", after := #[], guard := none } : Oper)) (v := ?_) rfl (by kernel_rfl) (by kernel_rfl) (by kernel_rfl) (fun _ _ _ h => h) (Or.inl ⟨by rfl, ?_⟩) (by assumption) ?_
      rotate_left
      · intro w hSw
        try dsimp only at hSw
        go_simp
        try with_reducible rfl
      try simp only [Act.put, List.setIfInBounds_toArray, List.set_cons_zero, List.set_cons_succ]
      refine wpAnyH_take (i := 1) (oi := ({ dst := some 29, op := Op.load 3 (Operand.tmp 28), type := 3, pos := "l05_term.go:67", after := #[{ on := 0, ground := Ground.data }], guard := none } : Oper)) (v := ?_) rfl (by kernel_rfl) (by kernel_rfl) (by kernel_rfl) (fun _ _ _ h => h) (Or.inl ⟨by rfl, ?_⟩) (by assumption) ?_
      rotate_left
      · intro w hSw
        try dsimp only at hSw
        go_simp
        try with_reducible rfl
      try simp only [Act.put, List.setIfInBounds_toArray, List.set_cons_zero, List.set_cons_succ]
      refine wpAnyH_take (i := 2) (oi := ({ dst := some 30, op := Op.binOp BinOp.eql 3 (Operand.tmp 29) (Operand.const (Value.int IntKind.i64 9)) 3, type := 4, pos := "l05_term.go:67", after := #[{ on := 1, ground := Ground.data }], guard := none } : Oper)) (v := ?_) rfl (by kernel_rfl) (by kernel_rfl) (by kernel_rfl) (fun _ _ _ h => h) (Or.inl ⟨by rfl, ?_⟩) (by assumption) ?_
      rotate_left
      · intro w hSw
        try dsimp only at hSw
        go_simp
        try with_reducible rfl
      try simp only [Act.put, List.setIfInBounds_toArray, List.set_cons_zero, List.set_cons_succ]
      refine wpAnyH_take (i := 3) (oi := ({ dst := some 31, op := Op.fieldAddr 29 (Operand.tmp 1) 5, type := 0, pos := "l05_term.go:67", after := #[], guard := none } : Oper)) (v := ?_) rfl (by kernel_rfl) (by kernel_rfl) (by kernel_rfl) (fun _ _ _ h => h) (Or.inl ⟨by rfl, ?_⟩) (by assumption) ?_
      rotate_left
      · intro w hSw
        try dsimp only at hSw
        go_simp
        try with_reducible rfl
      try simp only [Act.put, List.setIfInBounds_toArray, List.set_cons_zero, List.set_cons_succ]
      refine wpAnyH_take (i := 4) (oi := ({ dst := some 32, op := Op.load 26 (Operand.tmp 31), type := 26, pos := "l05_term.go:67", after := #[{ on := 3, ground := Ground.data }], guard := none } : Oper)) (v := ?_) rfl (by kernel_rfl) (by kernel_rfl) (by kernel_rfl) (fun _ _ _ h => h) (Or.inl ⟨by rfl, ?_⟩) (by assumption) ?_
      rotate_left
      · intro w hSw
        try dsimp only at hSw
        go_simp
        try with_reducible rfl
      try simp only [Act.put, List.setIfInBounds_toArray, List.set_cons_zero, List.set_cons_succ]
      refine wpAnyH_ready (rs := [5]) (by kernel_rfl) (by simp) ?_
      refine AllReadyH.cons (o := ({ dst := some 33, op := Op.call { callee := Callee.value (Operand.func 61), args := #[Operand.tmp 32], argTypes := #[26] }, type := 4, pos := "l05_term.go:67", after := #[{ on := 4, ground := Ground.data }], guard := none } : Oper)) rfl (fun K hK => ?_) AllReadyH.nil
      go_simp
      (go_at_call 61; refine HVR.out.mono ?_; rintro e w5 ⟨rfl, hb5⟩)
      refine hK.out _ _ ?_ (fun hHeld1 => ?_)
      · try dsimp only
        exact keepR hb5 (by assumption)
      clear hK K
      try simp only [Act.put, List.setIfInBounds_toArray, List.set_cons_zero, List.set_cons_succ]
      refine wpAnyH_take (i := 6) (oi := ({ dst := some 34, op := Op.binOp BinOp.neq 4 (Operand.tmp 30) (Operand.tmp 33) 4, type := 4, pos := "l05_term.go:67", after := #[{ on := 2, ground := Ground.data }, { on := 5, ground := Ground.data }], guard := none } : Oper)) (v := ?_) rfl (by kernel_rfl) (by kernel_rfl) (by kernel_rfl) (fun _ _ _ h => h) (Or.inl ⟨by rfl, ?_⟩) (by assumption) ?_
      rotate_left
      · intro w hSw
        try dsimp only at hSw
        go_simp
        try with_reducible rfl
      try simp only [Act.put, List.setIfInBounds_toArray, List.set_cons_zero, List.set_cons_succ]
      refine wpAnyH_take (i := 7) (oi := ({ dst := some 35, op := Op.move (Operand.tmp 34), type := 4, pos := "l05_term.go:67", after := #[{ on := 6, ground := Ground.data }, { on := 5, ground := Ground.chain }], guard := none } : Oper)) (v := ?_) rfl (by kernel_rfl) (by kernel_rfl) (by kernel_rfl) (fun _ _ _ h => h) (Or.inl ⟨by rfl, ?_⟩) (by assumption) ?_
      rotate_left
      · intro w hSw
        try dsimp only at hSw
        go_simp
        try with_reducible rfl
      try simp only [Act.put, List.setIfInBounds_toArray, List.set_cons_zero, List.set_cons_succ]
      refine wpAnyH_take (i := 8) (oi := ({ dst := some 36, op := Op.fieldAddr 29 (Operand.tmp 1) 0, type := 0, pos := "l05_term.go:67", after := #[{ on := 7, ground := Ground.guard }], guard := some (7, false) } : Oper)) (v := undef) rfl (by kernel_rfl) (by kernel_rfl) (by kernel_rfl) (fun _ _ _ h => h) (Or.inr ⟨by rfl, rfl⟩) (by assumption) ?_
      try simp only [Act.put, List.setIfInBounds_toArray, List.set_cons_zero, List.set_cons_succ]
      refine wpAnyH_take (i := 9) (oi := ({ dst := some 37, op := Op.load 3 (Operand.tmp 36), type := 3, pos := "l05_term.go:67", after := #[{ on := 8, ground := Ground.data }, { on := 7, ground := Ground.guard }], guard := some (7, false) } : Oper)) (v := undef) rfl (by kernel_rfl) (by kernel_rfl) (by kernel_rfl) (fun _ _ _ h => h) (Or.inr ⟨by rfl, rfl⟩) (by assumption) ?_
      try simp only [Act.put, List.setIfInBounds_toArray, List.set_cons_zero, List.set_cons_succ]
      refine wpAnyH_take (i := 10) (oi := ({ dst := some 38, op := Op.binOp BinOp.neq 3 (Operand.tmp 37) (Operand.const (Value.int IntKind.i64 9)) 3, type := 4, pos := "l05_term.go:67", after := #[{ on := 9, ground := Ground.data }, { on := 7, ground := Ground.guard }], guard := some (7, false) } : Oper)) (v := undef) rfl (by kernel_rfl) (by kernel_rfl) (by kernel_rfl) (fun _ _ _ h => h) (Or.inr ⟨by rfl, rfl⟩) (by assumption) ?_
      try simp only [Act.put, List.setIfInBounds_toArray, List.set_cons_zero, List.set_cons_succ]
      refine wpAnyH_take (i := 11) (oi := ({ dst := some 39, op := Op.move (Operand.tmp 38), type := 4, pos := "l05_term.go:67", after := #[{ on := 10, ground := Ground.data }, { on := 7, ground := Ground.chain }, { on := 7, ground := Ground.guard }], guard := some (7, false) } : Oper)) (v := undef) rfl (by kernel_rfl) (by kernel_rfl) (by kernel_rfl) (fun _ _ _ h => h) (Or.inr ⟨by rfl, rfl⟩) (by assumption) ?_
      try simp only [Act.put, List.setIfInBounds_toArray, List.set_cons_zero, List.set_cons_succ]
      refine wpAnyH_take (i := 12) (oi := ({ dst := some 40, op := Op.fieldAddr 29 (Operand.tmp 1) 5, type := 0, pos := "l05_term.go:67", after := #[{ on := 11, ground := Ground.guard }], guard := some (11, true) } : Oper)) (v := undef) rfl (by kernel_rfl) (by kernel_rfl) (by kernel_rfl) (fun _ _ _ h => h) (Or.inr ⟨by rfl, rfl⟩) (by assumption) ?_
      try simp only [Act.put, List.setIfInBounds_toArray, List.set_cons_zero, List.set_cons_succ]
      refine wpAnyH_take (i := 13) (oi := ({ dst := some 41, op := Op.load 26 (Operand.tmp 40), type := 26, pos := "l05_term.go:67", after := #[{ on := 12, ground := Ground.data }, { on := 11, ground := Ground.guard }], guard := some (11, true) } : Oper)) (v := undef) rfl (by kernel_rfl) (by kernel_rfl) (by kernel_rfl) (fun _ _ _ h => h) (Or.inr ⟨by rfl, rfl⟩) (by assumption) ?_
      try simp only [Act.put, List.setIfInBounds_toArray, List.set_cons_zero, List.set_cons_succ]
      refine wpAnyH_take (i := 14) (oi := ({ dst := some 42, op := Op.call { callee := Callee.value (Operand.func 62), args := #[Operand.tmp 41], argTypes := #[26] }, type := 4, pos := "l05_term.go:67", after := #[{ on := 13, ground := Ground.data }, { on := 11, ground := Ground.chain }, { on := 11, ground := Ground.guard }], guard := some (11, true) } : Oper)) (v := undef) rfl (by kernel_rfl) (by kernel_rfl) (by kernel_rfl) (fun _ _ _ h => h) (Or.inr ⟨by rfl, rfl⟩) (by assumption) ?_
      try simp only [Act.put, List.setIfInBounds_toArray, List.set_cons_zero, List.set_cons_succ]
      refine wpAnyH_take (i := 15) (oi := ({ dst := some 43, op := Op.unOp UnOp.not 4 (Operand.tmp 42), type := 4, pos := "l05_term.go:67", after := #[{ on := 14, ground := Ground.data }, { on := 11, ground := Ground.guard }], guard := some (11, true) } : Oper)) (v := undef) rfl (by kernel_rfl) (by kernel_rfl) (by kernel_rfl) (fun _ _ _ h => h) (Or.inr ⟨by rfl, rfl⟩) (by assumption) ?_
      try simp only [Act.put, List.setIfInBounds_toArray, List.set_cons_zero, List.set_cons_succ]
      refine wpAnyH_take (i := 16) (oi := ({ dst := some 44, op := Op.pick (Operand.tmp 39) (Operand.tmp 43) (Operand.const (Value.bool false)), type := 4, pos := "l05_term.go:67", after := #[{ on := 11, ground := Ground.data }, { on := 15, ground := Ground.data }, { on := 7, ground := Ground.guard }], guard := some (7, false) } : Oper)) (v := undef) rfl (by kernel_rfl) (by kernel_rfl) (by kernel_rfl) (fun _ _ _ h => h) (Or.inr ⟨by rfl, rfl⟩) (by assumption) ?_
      try simp only [Act.put, List.setIfInBounds_toArray, List.set_cons_zero, List.set_cons_succ]
      refine wpAnyH_take (i := 17) (oi := ({ dst := some 45, op := Op.pick (Operand.tmp 35) (Operand.const (Value.bool true)) (Operand.tmp 44), type := 4, pos := "l05_term.go:67", after := #[{ on := 7, ground := Ground.data }, { on := 16, ground := Ground.data }], guard := none } : Oper)) (v := ?_) rfl (by kernel_rfl) (by kernel_rfl) (by kernel_rfl) (fun _ _ _ h => h) (Or.inl ⟨by rfl, ?_⟩) (by assumption) ?_
      rotate_left
      · intro w hSw
        try dsimp only at hSw
        go_simp
        try with_reducible rfl
      try simp only [Act.put, List.setIfInBounds_toArray, List.set_cons_zero, List.set_cons_succ]
      refine wpAnyH_done (by kernel_rfl) ?_ _
      refine NoPanic.normal ?_
      clear hHeld hHeld1
      have HBW := Lib.hid (HB2.out.trans (((Below.refl _ _).drew.trans hb5).mono HB2.out.size))
      clear hb5
      go_wp2_with fail
      go_ret
      exact ⟨_, lit_f (fun h => by have := h.res1.2 HVR0.out; exact HK9.out this), rfl, HBW.out⟩
    · have HZ1 := Lib.hid z1
      have HZC1 := Lib.hid (fun W => zeroS_no (p := tp) (c := tc) z1 W)
      clear z1
      go_wp2_with fail
      refine (HZC1.out _).mono ?_
      rintro e w2 ⟨rfl, hb2⟩
      have HB2 := Lib.hid (HB1.out.trans (hb2.mono HB1.out.size))
      have HX2 := Lib.hid (HX1.out.keep hb2)
      clear g0 g1 g2 g3 g4 g5 g6 g7 g8
      obtain ⟨g0, g1, g2, g3, g4, g5, g6, g7, g8⟩ := HX1.out.keep hb2
      clear hb2
      go_wp2_with fail
      go_ret
      exact ⟨_, lit_f (fun h => h.ty2.elim (fun e => e.elim HK6.out HK9.out) HZ1.out), rfl, HB2.out⟩
  · obtain ⟨k6, k9⟩ := k
    have HK6 := Lib.hid k6
    have HK9 := Lib.hid k9
    have e6 : (t.kind == 6) = false := by simpa using k6
    have e9 : (t.kind == 9) = false := by simpa using k9
    have n9 : (t.kind != 9) = true := by simpa using k9
    clear k6 k9
    go_wp2_with fail
    refine (HVTC.out _ HB.out).mono ?_
    rintro e w1 ⟨rfl, hb1⟩
    have HB1 := Lib.hid (HB.out.trans (hb1.mono HB.out.size))
    have HX1 := Lib.hid (HX.out.keep hb1)
    obtain ⟨g0, g1, g2, g3, g4, g5, g6, g7, g8⟩ := HX.out.keep hb1
    clear hb1
    go_wp2_with fail
    go_ret
    exact ⟨_, lit_f (fun h => (h.ty1.2 HVT.out).elim HK6.out HK9.out), rfl, HB1.out⟩
  · obtain ⟨k6, k9⟩ := k
    have HK6 := Lib.hid k6
    have HK9 := Lib.hid k9
    have e6 : (t.kind == 6) = false := by simpa using k6
    have e9 : (t.kind == 9) = false := by simpa using k9
    have n9 : (t.kind != 9) = true := by simpa using k9
    clear k6 k9
    go_wp2_with fail
    refine (HVTC.out _ HB.out).mono ?_
    rintro e w1 ⟨rfl, hb1⟩
    have HB1 := Lib.hid (HB.out.trans (hb1.mono HB.out.size))
    have HX1 := Lib.hid (HX.out.keep hb1)
    obtain ⟨g0, g1, g2, g3, g4, g5, g6, g7, g8⟩ := HX.out.keep hb1
    clear hb1
    go_wp2_with fail
    go_ret
    exact ⟨_, lit_f (fun h => (h.ty1.2 HVT.out).elim HK6.out HK9.out), rfl, HB1.out⟩
end Go.Proofs.YtnciibngcaajgaaDoor
/- TmFields: The contract of the model's l5Fields: the fields of a node are those of its kind. -/
namespace Go.Proofs.YtnciibngcaajgaaDoor
open Go Go.RowKit

theorem fieldsS_any {C : Nat → Prop} (t : Tm) (tp : Option Addr) (tc : Nat) (rp : Option Addr) (rc : Nat) (p : Option Addr) (c : Nat) (w : World) (hT : TM' w C t tp tc rp rc p c) (hn : t.wt ≤ 1048576) :
    Calls Tryd.prog 36 #[tmV t tp tc rp rc p c] w (Tells t.FieldsOk w) := by
  rcases (show t.kind = 6 ∨ t.kind = 9 ∨ (¬ t.kind = 6 ∧ ¬ t.kind = 9) by omega) with k | k | k
  · exact fieldsSSix t tp tc rp rc p c w hT hn k
  · exact fieldsSNine t tp tc rp rc p c w hT hn k
  · exact fieldsSOth t tp tc rp rc p c w hT hn k
end Go.Proofs.YtnciibngcaajgaaDoor
/- TmIsT: The contracts of the model's IsTerm and IsValidTerm. -/
namespace Go.Proofs.YtnciibngcaajgaaDoor
open Go Go.RowKit

mutual
/-- Every node has one of the forms. -/
def Tm.IsT : Tm → Prop
  | .mk k a b n t r ts => IsTS ts ∧ (Tm.mk k a b n t r ts).FieldsOk ∧ (ts.length : Int) = (Tm.mk k a b n t r ts).arity
def IsTS : List Tm → Prop
  | [] => True
  | t :: ts => t.IsT ∧ IsTS ts
end
theorem Tm.IsT_eq (t : Tm) : t.IsT ↔ IsTS t.args ∧ t.FieldsOk ∧ (t.args.length : Int) = t.arity := by cases t; simp only [Tm.IsT, Tm.args]
theorem IsTS_append (a b : List Tm) : IsTS (a ++ b) ↔ IsTS a ∧ IsTS b := by
  induction a with
  | nil => simp [IsTS]
  | cons x a ih => simp only [List.cons_append, IsTS, ih, and_assoc]
theorem IsTS_take (ts : List Tm) (k : Nat) (h : k < ts.length) : IsTS (ts.take (k + 1)) ↔ IsTS (ts.take k) ∧ ts[k].IsT := by
  rw [tm_take_next h, IsTS_append]; simp [IsTS]
theorem IsTS_at (ts : List Tm) (k : Nat) (h : k < ts.length) (hs : IsTS ts) : ts[k].IsT := by
  have := (IsTS_append (ts.take (k + 1)) (ts.drop (k + 1))).1 (by rw [List.take_append_drop]; exact hs)
  exact ((IsTS_take ts k h).1 this.1).2
theorem keepN' {W w1 : World} {p : Addr} {v : Value} (hb1 : Below W.heap.size W w1) (h : W.cell? p = some v) : w1.cell? p = some v := (hb1.cell (World.block_lt_of_cell? W _ h)).trans h
theorem keep9m {w W w1 : World} {p0 p1 p2 p3 p4 p5 p6 p7 p8 : Addr} {v0 v1 v2 v3 v4 v5 v6 v7 v8 : Value} (hb1 : Below W.heap.size W w1) (h : W.cell? p0 = some v0 ∧ W.cell? p1 = some v1 ∧ W.cell? p2 = some v2 ∧ W.cell? p3 = some v3 ∧ W.cell? p4 = some v4 ∧ W.cell? p5 = some v5 ∧ W.cell? p6 = some v6 ∧ W.cell? p7 = some v7 ∧ W.cell? p8 = some v8 ∧ Below w.heap.size w W) : w1.cell? p0 = some v0 ∧ w1.cell? p1 = some v1 ∧ w1.cell? p2 = some v2 ∧ w1.cell? p3 = some v3 ∧ w1.cell? p4 = some v4 ∧ w1.cell? p5 = some v5 ∧ w1.cell? p6 = some v6 ∧ w1.cell? p7 = some v7 ∧ w1.cell? p8 = some v8 ∧ Below w.heap.size w w1 := by
  obtain ⟨h0, h1, h2, h3, h4, h5, h6, h7, h8, hz⟩ := h
  exact ⟨keepN' hb1 h0, keepN' hb1 h1, keepN' hb1 h2, keepN' hb1 h3, keepN' hb1 h4, keepN' hb1 h5, keepN' hb1 h6, keepN' hb1 h7, keepN' hb1 h8, hz.trans (hb1.mono hz.size)⟩
theorem fields_yes {C : Nat → Prop} {t : Tm} {tp rp p : Option Addr} {tc rc c : Nat} {w : World} (hT : TM' w C t tp tc rp rc p c) (hn : t.wt ≤ 1048576) (h : t.FieldsOk) :
    Calls Tryd.prog 36 #[tmV t tp tc rp rc p c] w fun e w' => e = .returned (.bool true) ∧ Below w.heap.size w w' := by
  refine (fieldsS_any t tp tc rp rc p c w hT hn).mono ?_
  rintro e w' ⟨r, hr, rfl, hw⟩
  exact ⟨by rw [hr.2 h], hw⟩
theorem fields_no {C : Nat → Prop} {t : Tm} {tp rp p : Option Addr} {tc rc c : Nat} {w : World} (hT : TM' w C t tp tc rp rc p c) (hn : t.wt ≤ 1048576) (h : ¬ t.FieldsOk) :
    Calls Tryd.prog 36 #[tmV t tp tc rp rc p c] w fun e w' => e = .returned (.bool false) ∧ Below w.heap.size w w' := by
  refine (fieldsS_any t tp tc rp rc p c w hT hn).mono ?_
  rintro e w' ⟨r, hr, rfl, hw⟩
  exact ⟨by rw [Bool.eq_false_iff.2 (fun e => h (hr.1 e))], hw⟩

set_option maxRecDepth 100000 in
set_option maxHeartbeats 4000000 in
theorem isTM_any {C : Nat → Prop} : ∀ (m : Nat) {t : Tm} {tp : Option Addr} {tc : Nat} {rp : Option Addr} {rc : Nat} {p : Option Addr} {c : Nat} (w : World), t.nodes ≤ m → TM' w C t tp tc rp rc p c → t.wt ≤ 1048576 → Calls Tryd.prog 15 #[tmV t tp tc rp rc p c] w (Tells t.IsT w)
  | 0, t, tp, tc, rp, rc, p, c, w, hm, hT, hn => by rw [t.nodes_eq] at hm; omega
  | m + 1, t, tp, tc, rp, rc, p, c, w, hm, hT, hn => by
    have HT := Lib.hid hT
    have HX0 := Lib.hid (Bx9.new w t tp tc rp rc p c 29)
    have HB0 := Lib.hid (al_below w (.cells (tmC t tp tc rp rc p c) 29))
    have hne := t.nodes_eq
    have hwe := t.wt_eq
    have hlen := wtS_ge t.args
    have HM := Lib.hid hm
    have HNE := Lib.hid hne
    have HNW := Lib.hid hn
    have HIE := Lib.hid t.IsT_eq
    have hwa : wtS t.args ≤ 1048576 := by omega
    clear hT hne hwe hm hn
    go_enter Tryd.func15, Tryd.ntmps15
    go_wp2_with fail
    go_loopw [3] (fun i wr => ∃ (k : Nat), k ≤ t.args.length ∧ i = .int .i64 k ∧ IsTS (t.args.take k) ∧ Below (w.alloc (.cells (tmC t tp tc rp rc p c) 29)).heap.size (w.alloc (.cells (tmC t tp tc rp rc p c) 29)) wr) (fun i _ => t.args.length - (intOf i).toNat)
    case atStart => exact ⟨0, Nat.zero_le _, rfl, by simp [IsTS], Below.refl _ _⟩
    case round =>
      obtain ⟨k, hk, rfl, hts, hbr⟩ := hrel
      have HTS := Lib.hid hts
      have HBR := Lib.hid hbr
      have HBW := Lib.hid (HB0.out.trans (hbr.mono HB0.out.size))
      obtain ⟨d0, d1, d2, d3, d4, d5, d6, d7, d8⟩ := HX0.out.keep hbr
      clear hbr hts
      by_cases hlk : k < t.args.length
      · obtain ⟨b, o, tp2, tc2, rp2, rc2, p2, c2, rfl, hC, hb, h9, hP⟩ := tm_part HT.out.args k hlk
        obtain ⟨g0, g1, g2, g3, g4, g5, g6, g7, g8⟩ := h9 wr (.of_below HBW.out)
        have n4 := nodesM_at t.args k hlk
        have n5 := wtS_at t.args k hlk
        have hmk : t.args[k].nodes ≤ m := by have := HM.out; have := HNE.out; omega
        have hi0 : (0 : Int) ≤ (k : Int) := Int.natCast_nonneg _
        have hi1 : (k : Int) < (t.args.length : Int) := by omega
        have HC := Lib.hid (isTM_any m wr hmk (hP.stays (.of_below HBW.out)) (by omega))
        clear hC hb h9 hP n4 n5 hmk d0 d1 d2 d3 d4 d5 d6 d7
        go_wp2_with fail
        refine HC.out.mono ?_
        rintro e w1 ⟨r, hr, rfl, hb1⟩
        have HB1 := Lib.hid (HBR.out.trans (hb1.mono HBR.out.size))
        have HR := Lib.hid hr
        clear hb1 hr
        cases hr0 : r
        · have hnf : ¬ t.args[k].IsT := fun h => by have := HR.out.2 h; rw [hr0] at this; cases this
          have HF := Lib.hid hnf
          clear hnf
          subst hr0
          go_wp2_with fail
          go_ret
          exact ⟨_, lit_f (fun h => HF.out (IsTS_at _ k hlk (HIE.out.1 h).1)), rfl, box_rest HB1.out⟩
        · have HF := Lib.hid (HR.out.1 hr0)
          subst hr0
          go_wp2_with fail
          go_roundw
          case rel => exact ⟨k + 1, by omega, by go_num, (IsTS_take _ k hlk).2 ⟨HTS.out, HF.out⟩, HB1.out⟩
          case measure => simp [intOf]; omega
      · obtain rfl : k = t.args.length := by omega
        have hall := HTS.out
        rw [List.take_length] at hall
        have HALL := Lib.hid hall
        clear hall
        by_cases hf : t.FieldsOk
        · have HFC := Lib.hid (fields_yes (w := wr.drew) (C := C) (HT.out.stays (.of_below HBW.out.drew)) HNW.out hf)
          have HF := Lib.hid hf
          clear hf
          go_wp2_with fail
          go_region_held3 (fun w' => w'.cell? ⟨w.heap.size, 0, none⟩ = some (.int .i64 t.kind) ∧ w'.cell? ⟨w.heap.size, 1, none⟩ = some (.string t.name) ∧ w'.cell? ⟨w.heap.size, 2, none⟩ = some (.string t.other) ∧ w'.cell? ⟨w.heap.size, 3, none⟩ = some (.int .i64 t.n) ∧ w'.cell? ⟨w.heap.size, 4, none⟩ = some (.int .i64 t.ty.kind) ∧ w'.cell? ⟨w.heap.size, 5, none⟩ = some (.slice tp t.ty.args.length tc) ∧ w'.cell? ⟨w.heap.size, 6, none⟩ = some (.int .i64 t.res.kind) ∧ w'.cell? ⟨w.heap.size, 7, none⟩ = some (.slice rp t.res.args.length rc) ∧ w'.cell? ⟨w.heap.size, 8, none⟩ = some (.slice p t.args.length c) ∧ Below w.heap.size w w')
            (first
              | (go_keep; done)
              | exact ⟨d0, d1, d2, d3, d4, d5, d6, d7, d8, HBW.out.drew⟩
              | exact keep9m hb6 (by assumption)
              | exact keep9m hb5 (by assumption))
            (first
              | (go_at_call 36; refine HFC.out.mono ?_; rintro e w5 ⟨rfl, hb5⟩)
              | (go_at_call 37; refine (arityS_any t tp tc rp rc p c _).mono ?_; rintro e w6 ⟨rfl, hb6⟩))
          rename_i hH
          have HB7 := Lib.hid hH.2.2.2.2.2.2.2.2.2
          clear hH hb5 hb6
          by_cases har : (t.args.length : Int) = t.arity
          · have HA := Lib.hid har
            have har1 : ((t.args.length : Int) == t.arity) = true := by rw [beq_iff_eq]; exact har
            clear har
            go_wp2_with fail
            go_ret
            exact ⟨_, lit_t (HIE.out.2 ⟨HALL.out, HF.out, HA.out⟩), (by first | rfl | (rw [har1]; rfl)), HB7.out⟩
          · have HA := Lib.hid har
            have har1 : ((t.args.length : Int) == t.arity) = false := by rw [beq_eq_false_iff_ne]; exact har
            clear har
            go_wp2_with fail
            go_ret
            exact ⟨_, lit_f (fun h => HA.out (HIE.out.1 h).2.2), (by first | rfl | (rw [har1]; rfl)), HB7.out⟩
        · have HFC := Lib.hid (fields_no (w := wr.drew) (C := C) (HT.out.stays (.of_below HBW.out.drew)) HNW.out hf)
          have HF := Lib.hid hf
          clear hf
          go_wp2_with fail
          refine wp_region_noPanic ?_
          refine wp_region_held_drew (S := (fun w' => w'.cell? ⟨w.heap.size, 0, none⟩ = some (.int .i64 t.kind) ∧ w'.cell? ⟨w.heap.size, 1, none⟩ = some (.string t.name) ∧ w'.cell? ⟨w.heap.size, 2, none⟩ = some (.string t.other) ∧ w'.cell? ⟨w.heap.size, 3, none⟩ = some (.int .i64 t.n) ∧ w'.cell? ⟨w.heap.size, 4, none⟩ = some (.int .i64 t.ty.kind) ∧ w'.cell? ⟨w.heap.size, 5, none⟩ = some (.slice tp t.ty.args.length tc) ∧ w'.cell? ⟨w.heap.size, 6, none⟩ = some (.int .i64 t.res.kind) ∧ w'.cell? ⟨w.heap.size, 7, none⟩ = some (.slice rp t.res.args.length rc) ∧ w'.cell? ⟨w.heap.size, 8, none⟩ = some (.slice p t.args.length c) ∧ Below w.heap.size w w')) (by kernel_rfl) ?_ (fun hHeld => ?_)
          · try dsimp only
            exact ⟨d0, d1, d2, d3, d4, d5, d6, d7, d8, HBW.out.drew⟩
          refine wpAnyH_take (i := 0) (oi := ({ dst := some 18, op := Op.load 29 (Operand.tmp 1), type := 29, pos := "l05_term.go:86", after := #[], guard := none } : Oper)) (v := ?_) rfl (by kernel_rfl) (by kernel_rfl) (by kernel_rfl) (fun _ _ _ h => h) (Or.inl ⟨by rfl, ?_⟩) (by assumption) ?_
          rotate_left
          · intro w hSw
            try dsimp only at hSw
            go_simp
            try with_reducible rfl
          try simp only [Act.put, List.setIfInBounds_toArray, List.set_cons_zero, List.set_cons_succ]
          refine wpAnyH_ready (rs := [1]) (by kernel_rfl) (by simp) ?_
          refine AllReadyH.cons (o := ({ dst := some 19, op := Op.call { callee := Callee.value (Operand.func 36), args := #[Operand.tmp 18], argTypes := #[29] }, type := 4, pos := "l05_term.go:86", after := #[{ on := 0, ground := Ground.data }], guard := none } : Oper)) rfl (fun K hK => ?_) AllReadyH.nil
          go_simp
          (go_at_call 36; refine HFC.out.mono ?_; rintro e w5 ⟨rfl, hb5⟩)
          refine hK.out _ _ ?_ (fun hHeld1 => ?_)
          · try dsimp only
            exact keep9m hb5 (by assumption)
          clear hK K
          try simp only [Act.put, List.setIfInBounds_toArray, List.set_cons_zero, List.set_cons_succ]
          refine wpAnyH_take (i := 2) (oi := ({ dst := some 20, op := Op.move (Operand.tmp 19), type := 4, pos := "l05_term.go:86", after := #[{ on := 1, ground := Ground.data }, { on := 1, ground := Ground.chain }], guard := none } : Oper)) (v := ?_) rfl (by kernel_rfl) (by kernel_rfl) (by kernel_rfl) (fun _ _ _ h => h) (Or.inl ⟨by rfl, ?_⟩) (by assumption) ?_
          rotate_left
          · intro w hSw
            try dsimp only at hSw
            go_simp
            try with_reducible rfl
          try simp only [Act.put, List.setIfInBounds_toArray, List.set_cons_zero, List.set_cons_succ]
          refine wpAnyH_take (i := 3) (oi := ({ dst := some 21, op := Op.fieldAddr 29 (Operand.tmp 1) 6, type := 0, pos := "l05_term.go:86", after := #[{ on := 2, ground := Ground.guard }], guard := some (2, true) } : Oper)) (v := undef) rfl (by kernel_rfl) (by kernel_rfl) (by kernel_rfl) (fun _ _ _ h => h) (Or.inr ⟨by rfl, rfl⟩) (by assumption) ?_
          try simp only [Act.put, List.setIfInBounds_toArray, List.set_cons_zero, List.set_cons_succ]
          refine wpAnyH_take (i := 4) (oi := ({ dst := some 22, op := Op.load 27 (Operand.tmp 21), type := 27, pos := "l05_term.go:86", after := #[{ on := 3, ground := Ground.data }, { on := 2, ground := Ground.guard }], guard := some (2, true) } : Oper)) (v := undef) rfl (by kernel_rfl) (by kernel_rfl) (by kernel_rfl) (fun _ _ _ h => h) (Or.inr ⟨by rfl, rfl⟩) (by assumption) ?_
          try simp only [Act.put, List.setIfInBounds_toArray, List.set_cons_zero, List.set_cons_succ]
          refine wpAnyH_take (i := 5) (oi := ({ dst := some 23, op := Op.call { callee := Callee.builtin Builtin.len, args := #[Operand.tmp 22], argTypes := #[27] }, type := 3, pos := "l05_term.go:86", after := #[{ on := 4, ground := Ground.data }, { on := 2, ground := Ground.guard }], guard := some (2, true) } : Oper)) (v := undef) rfl (by kernel_rfl) (by kernel_rfl) (by kernel_rfl) (fun _ _ _ h => h) (Or.inr ⟨by rfl, rfl⟩) (by assumption) ?_
          try simp only [Act.put, List.setIfInBounds_toArray, List.set_cons_zero, List.set_cons_succ]
          refine wpAnyH_take (i := 6) (oi := ({ dst := some 24, op := Op.load 29 (Operand.tmp 1), type := 29, pos := "l05_term.go:86", after := #[{ on := 2, ground := Ground.guard }], guard := some (2, true) } : Oper)) (v := undef) rfl (by kernel_rfl) (by kernel_rfl) (by kernel_rfl) (fun _ _ _ h => h) (Or.inr ⟨by rfl, rfl⟩) (by assumption) ?_
          try simp only [Act.put, List.setIfInBounds_toArray, List.set_cons_zero, List.set_cons_succ]
          refine wpAnyH_take (i := 7) (oi := ({ dst := some 25, op := Op.call { callee := Callee.value (Operand.func 37), args := #[Operand.tmp 24], argTypes := #[29] }, type := 3, pos := "l05_term.go:86", after := #[{ on := 6, ground := Ground.data }, { on := 2, ground := Ground.chain }, { on := 2, ground := Ground.guard }], guard := some (2, true) } : Oper)) (v := undef) rfl (by kernel_rfl) (by kernel_rfl) (by kernel_rfl) (fun _ _ _ h => h) (Or.inr ⟨by rfl, rfl⟩) (by assumption) ?_
          try simp only [Act.put, List.setIfInBounds_toArray, List.set_cons_zero, List.set_cons_succ]
          refine wpAnyH_take (i := 8) (oi := ({ dst := some 26, op := Op.binOp BinOp.eql 3 (Operand.tmp 23) (Operand.tmp 25) 3, type := 4, pos := "l05_term.go:86", after := #[{ on := 5, ground := Ground.data }, { on := 7, ground := Ground.data }, { on := 2, ground := Ground.guard }], guard := some (2, true) } : Oper)) (v := undef) rfl (by kernel_rfl) (by kernel_rfl) (by kernel_rfl) (fun _ _ _ h => h) (Or.inr ⟨by rfl, rfl⟩) (by assumption) ?_
          try simp only [Act.put, List.setIfInBounds_toArray, List.set_cons_zero, List.set_cons_succ]
          refine wpAnyH_take (i := 9) (oi := ({ dst := some 27, op := Op.pick (Operand.tmp 20) (Operand.tmp 26) (Operand.const (Value.bool false)), type := 4, pos := "l05_term.go:86", after := #[{ on := 2, ground := Ground.data }, { on := 8, ground := Ground.data }], guard := none } : Oper)) (v := ?_) rfl (by kernel_rfl) (by kernel_rfl) (by kernel_rfl) (fun _ _ _ h => h) (Or.inl ⟨by rfl, ?_⟩) (by assumption) ?_
          rotate_left
          · intro w hSw
            try dsimp only at hSw
            go_simp
            try with_reducible rfl
          try simp only [Act.put, List.setIfInBounds_toArray, List.set_cons_zero, List.set_cons_succ]
          refine wpAnyH_take (i := 10) (oi := ({ dst := some 2, op := Op.assign (Operand.tmp 27), type := 4, pos := "l05_term.go:86", after := #[{ on := 9, ground := Ground.data }, { on := 7, ground := Ground.chain }, { on := 0, ground := Ground.phase }, { on := 1, ground := Ground.phase }, { on := 2, ground := Ground.phase }, { on := 3, ground := Ground.phase }, { on := 4, ground := Ground.phase }, { on := 5, ground := Ground.phase }, { on := 6, ground := Ground.phase }, { on := 7, ground := Ground.phase }, { on := 8, ground := Ground.phase }, { on := 9, ground := Ground.phase }], guard := none } : Oper)) (v := ?_) rfl (by kernel_rfl) (by kernel_rfl) (by kernel_rfl) (fun _ _ _ h => h) (Or.inl ⟨by rfl, ?_⟩) (by assumption) ?_
          rotate_left
          · intro w hSw
            try dsimp only at hSw
            go_simp
            try with_reducible rfl
          try simp only [Act.put, List.setIfInBounds_toArray, List.set_cons_zero, List.set_cons_succ]
          refine wpAnyH_done (by kernel_rfl) ?_ _
          refine NoPanic.normal ?_
          clear hHeld hHeld1
          have HB7 := Lib.hid (HBW.out.trans (((Below.refl _ _).drew.trans hb5).mono HBW.out.size))
          clear hb5
          go_wp2_with fail
          go_ret
          exact ⟨_, lit_f (fun h => HF.out (HIE.out.1 h).2.1), rfl, HB7.out⟩
end Go.Proofs.YtnciibngcaajgaaDoor
/- TmCopy: The contract of the laws' toTermS and toTerm: the same term, in rows of the call's own. -/
namespace Go.Proofs.YtnciibngcaajgaaDoor
open Go Go.RowKit

theorem infoTm : (Tryd.prog.info? 29).map (fun i => (i.zero, i.size, i.bytes)) = some (some (.agg #[.int .i64 0, .string ⟨#[]⟩, .string ⟨#[]⟩, .int .i64 0, .int .i64 0, .slice none 0 0, .int .i64 0, .slice none 0 0, .slice none 0 0]), 9, 136) := by kernel_rfl

theorem chain3 (w : World) (a b c : Obj) : ((((w.alloc a).alloc b).alloc c).heap[w.heap.size]? = some a ∧ (((w.alloc a).alloc b).alloc c).heap[w.heap.size + 1]? = some b ∧ (((w.alloc a).alloc b).alloc c).heap[w.heap.size + 1 + 1]? = some c) ∧
    (((w.alloc a).alloc b).alloc c).heap.size = w.heap.size + 3 ∧ Below w.heap.size w (((w.alloc a).alloc b).alloc c) := by
  refine ⟨⟨?_, ?_, ?_⟩, by simp, ((al_below w a).trans ((al_below _ b).mono (by simp))).trans ((al_below _ c).mono (by simp; omega))⟩
  · rw [Below.heap_alloc _ _ _ (by simp; omega), Below.heap_alloc _ _ _ (by simp)]; exact blk_new w a
  · rw [Below.heap_alloc _ _ _ (by simp)]
    have := blk_new (w.alloc a) b
    rwa [World.size_alloc] at this
  · have := blk_new ((w.alloc a).alloc b) c
    rwa [World.size_alloc, World.size_alloc] at this

/-- A term of the call's own; F: the blocks, which are apart. -/
abbrev tmL (t : Tm) (tp : Option Addr) (tc : Nat) (rp : Option Addr) (rc : Nat) (p : Option Addr) (c : Nat) : List Value :=
  [.int .i64 t.kind, .string t.name, .string t.other, .int .i64 t.n, .int .i64 t.ty.kind, .slice tp t.ty.args.length tc, .int .i64 t.res.kind, .slice rp t.res.args.length rc, .slice p t.args.length c]
def OMv (w : World) (t : Tm) (v : Value) (F : Nat → Prop) : Prop := ∃ tp tc rp rc p c, v = tmV t tp tc rp rc p c ∧ OSt w t.ds (tmL t tp tc rp rc p c) F
theorem OSt.tm {w : World} {t : Tm} {tp rp p : Option Addr} {tc rc c : Nat} {F : Nat → Prop} (h : OSt w t.ds (tmL t tp tc rp rc p c) F) : TM' w F t tp tc rp rc p c := by
  have hm := h.ms.2
  rw [t.ds_eq] at hm
  exact ⟨(hm 5 _ _ rfl rfl).ts _ (Nat.le_refl _), (hm 7 _ _ rfl rfl).ts _ (Nat.le_refl _), hm 8 _ _ rfl rfl⟩
theorem OMv.tm {w : World} {t : Tm} {v : Value} {F : Nat → Prop} (h : OMv w t v F) : TM w F t v := by
  obtain ⟨tp, tc, rp, rc, p, c, hv, h⟩ := h
  exact ⟨tp, tc, rp, rc, p, c, hv, h.tm⟩
theorem OMv.stays {w w' : World} {t : Tm} {v : Value} {F : Nat → Prop} (h : OMv w t v F) (hs : Stays F w w') : OMv w' t v F := by
  obtain ⟨tp, tc, rp, rc, p, c, hv, h⟩ := h
  exact ⟨tp, tc, rp, rc, p, c, hv, h.stays hs⟩
theorem OMv.keep {w w' : World} {t : Tm} {v : Value} {F : Nat → Prop} (h : OMv w t v F) (hb : Below w.heap.size w w') : OMv w' t v F := h.stays (.of_below hb)
theorem OMv.mono {w : World} {t : Tm} {v : Value} {F F' : Nat → Prop} (h : OMv w t v F) (hF : ∀ b, F b → F' b) : OMv w t v F' := by
  obtain ⟨tp, tc, rp, rc, p, c, hv, h⟩ := h
  exact ⟨tp, tc, rp, rc, p, c, hv, h.mono hF⟩
theorem OSt9 {w : World} {t : Tm} {tp rp p : Option Addr} {tc rc c : Nat} {F F1 F2 F3 : Nat → Prop} (h1 : OS w t.ty.args (.slice tp t.ty.args.length tc) F1) (h2 : OS w t.res.args (.slice rp t.res.args.length rc) F2) (h3 : DO w (tmD t.args) (.slice p t.args.length c) F3)
    (a1 : ∀ z, F1 z → F z ∧ ¬ F2 z ∧ ¬ F3 z) (a2 : ∀ z, F2 z → F z ∧ ¬ F3 z) (a3 : ∀ z, F3 z → F z) : OSt w t.ds (tmL t tp tc rp rc p c) F := by
  refine ⟨by rw [t.ds_len]; rfl, fun i z => (i = 5 ∧ F1 z) ∨ (i = 7 ∧ F2 z) ∨ (i = 8 ∧ F3 z), fun i d v hd hv => ?_, fun i z _ hz => ?_, fun i j z _ _ hij hz1 hz2 => ?_⟩
  · rw [t.ds_eq] at hd
    match i, hd, hv with
    | 0, hd, hv => cases hd; cases hv; exact .cell _ _
    | 1, hd, hv => cases hd; cases hv; exact .cell _ _
    | 2, hd, hv => cases hd; cases hv; exact .cell _ _
    | 3, hd, hv => cases hd; cases hv; exact .cell _ _
    | 4, hd, hv => cases hd; cases hv; exact .cell _ _
    | 5, hd, hv => cases hd; cases hv; exact h1.dO.mono (fun z hz => Or.inl ⟨rfl, hz⟩)
    | 6, hd, hv => cases hd; cases hv; exact .cell _ _
    | 7, hd, hv => cases hd; cases hv; exact h2.dO.mono (fun z hz => Or.inr (Or.inl ⟨rfl, hz⟩))
    | 8, hd, hv => cases hd; cases hv; exact h3.mono (fun z hz => Or.inr (Or.inr ⟨rfl, hz⟩))
    | n + 9, hd, hv => simp at hv
  · rcases hz with ⟨_, hz⟩ | ⟨_, hz⟩ | ⟨_, hz⟩
    · exact (a1 z hz).1
    · exact (a2 z hz).1
    · exact a3 z hz
  · rcases hz1 with ⟨rfl, h1⟩ | ⟨rfl, h1⟩ | ⟨rfl, h1⟩ <;> rcases hz2 with ⟨rfl, h2⟩ | ⟨rfl, h2⟩ | ⟨rfl, h2⟩
    · exact hij rfl
    · exact (a1 z h1).2.1 h2
    · exact (a1 z h1).2.2 h2
    · exact (a1 z h2).2.1 h1
    · exact hij rfl
    · exact (a2 z h1).2 h2
    · exact (a1 z h2).2.2 h1
    · exact (a2 z h2).2 h1
    · exact hij rfl

/-- A new term: the same as t, in blocks that were not there. -/
def NewM (t : Tm) (w : World) (e : Ending) (w' : World) : Prop := ∃ v, e = .returned v ∧ OMv w' t v (fun g => w.heap.size ≤ g ∧ g < w'.heap.size) ∧ Below w.heap.size w w'
def NewMS (ts : List Tm) (w : World) (e : Ending) (w' : World) : Prop := ∃ v, e = .returned v ∧ DO w' (tmD ts) v (fun g => w.heap.size ≤ g ∧ g < w'.heap.size) ∧ Below w.heap.size w w'

set_option maxRecDepth 100000 in
set_option maxHeartbeats 2000000 in
theorem toM_of {C : Nat → Prop} {t : Tm} {tp rp p : Option Addr} {tc rc c : Nat} {w : World} (hT : TM' w C t tp tc rp rc p c) (hn : t.wt ≤ 1048576)
    (h : ∀ (w' : World), Below w.heap.size w w' → Calls Tryd.prog 45 #[.slice p t.args.length c] w' (NewMS t.args w')) :
    Calls Tryd.prog 21 #[tmV t tp tc rp rc p c] w (NewM t w) := by
  have hwt := t.wt_eq
  have n1 : nodesS t.ty.args ≤ 1048576 := by omega
  have n2 : nodesS t.res.args ≤ 1048576 := by omega
  obtain ⟨⟨k0, k1, k2⟩, hsz, hbl⟩ := chain3 w (.cells (tmC t tp tc rp rc p c) 43) (.cells #[.int .i64 0, .string ⟨#[]⟩, .string ⟨#[]⟩, .int .i64 0, .int .i64 0, .slice none 0 0, .int .i64 0, .slice none 0 0, .slice none 0 0] 29)
    (.cells #[.int .i64 t.kind, .string t.name, .string t.other, .int .i64 t.n, .int .i64 0, .slice none 0 0, .int .i64 0, .slice none 0 0, .slice none 0 0] 29)
  have HH := Lib.hid h
  have HT := Lib.hid hT
  have HK0 := Lib.hid k0
  have HK1 := Lib.hid k1
  have HK2 := Lib.hid k2
  have HSZ := Lib.hid hsz
  have HBL := Lib.hid hbl
  clear h hT hwt hn k0 k1 k2 hsz hbl
  go_enter Tryd.func21, Tryd.ntmps21
  go_wp2_with fail
  refine (toT_any (C := C) (t := t.ty) (v := .agg #[.int .i64 t.ty.kind, .slice tp t.ty.args.length tc]) ⟨_, rfl, HT.out.ty.keep HBL.out⟩ n1).mono ?_
  rintro e w1 ⟨v1, rfl, ⟨s1, rfl, ho1⟩, hb1⟩
  obtain ⟨p1, c1, rfl⟩ := ho1.form
  have hb1s := hb1.size
  rw [HSZ.out] at hb1 hb1s ho1
  have q0 := (hb1.block w.heap.size (by omega)).trans HK0.out
  have q1 := (hb1.block (w.heap.size + 1) (by omega)).trans HK1.out
  have q2 := (hb1.block (w.heap.size + 1 + 1) (by omega)).trans HK2.out
  obtain ⟨_, _, _, _, _, _, x6, x7, x8⟩ := Bx9.of q0
  have y4 : w1.cell? ⟨w.heap.size + 1 + 1, 4, none⟩ = some (.int .i64 0) := cell_of_blk q2 4
  have y5 : w1.cell? ⟨w.heap.size + 1 + 1, 5, none⟩ = some (.slice none 0 0) := cell_of_blk q2 5
  have yz := unfrozen_of_blk q2
  have e2 := heap_setCell_same _ _ 5 _ _ (.slice p1 t.ty.args.length c1) (heap_setCell_same w1 _ 4 _ _ (.int .i64 t.ty.kind) q2)
  have st : ∀ F : Nat → Prop, ¬ F (w.heap.size + 1 + 1) → Stays F w1 ((w1.setCell ⟨w.heap.size + 1 + 1, 4, none⟩ (.int .i64 t.ty.kind)).setCell ⟨w.heap.size + 1 + 1, 5, none⟩ (.slice p1 t.ty.args.length c1)) := fun F hF => (setCell_stays _ _ _ _ F hF).trans (setCell_stays _ _ _ _ F hF)
  have HS1 := Lib.hid (st (fun z => z ≠ w.heap.size + 1 + 1) (by simp))
  have HO1 := Lib.hid (ho1.stays (st _ (by omega)))
  have HQ0 := Lib.hid ((HS1.out.2 w.heap.size (by omega) (by omega)).trans q0)
  have HQ1 := Lib.hid ((HS1.out.2 (w.heap.size + 1) (by omega) (by omega)).trans q1)
  have HQ2 := Lib.hid e2
  have hB2 : Below w.heap.size w ((w1.setCell ⟨w.heap.size + 1 + 1, 4, none⟩ (.int .i64 t.ty.kind)).setCell ⟨w.heap.size + 1 + 1, 5, none⟩ (.slice p1 t.ty.args.length c1)) :=
    ((HBL.out.trans (hb1.mono (by omega))).setCell (p := ⟨w.heap.size + 1 + 1, 4, none⟩) (by show w.heap.size ≤ w.heap.size + 1 + 1; omega) _).setCell (p := ⟨w.heap.size + 1 + 1, 5, none⟩) (by show w.heap.size ≤ w.heap.size + 1 + 1; omega) _
  have HB2 := Lib.hid hB2
  have HZ2 := Lib.hid (show ((w1.setCell ⟨w.heap.size + 1 + 1, 4, none⟩ (.int .i64 t.ty.kind)).setCell ⟨w.heap.size + 1 + 1, 5, none⟩ (.slice p1 t.ty.args.length c1)).heap.size = w1.heap.size by simp [World.setCell])
  have HC2 := Lib.hid (toT_any (C := C) (t := t.res) (v := .agg #[.int .i64 t.res.kind, .slice rp t.res.args.length rc]) ⟨_, rfl, HT.out.res.keep hB2⟩ n2)
  have L1 := Lib.hid hb1s
  clear q0 q1 q2 e2 st hB2 ho1 hb1 hb1s
  go_wp2_with fail
  refine HC2.out.mono ?_
  rintro e w2 ⟨v2, rfl, ⟨s2, rfl, ho2⟩, hb2⟩
  obtain ⟨p2, c2, rfl⟩ := ho2.form
  have hb2s := hb2.size
  rw [HZ2.out] at hb2 hb2s ho2
  have hl1 := L1.out
  have q0 := (hb2.block w.heap.size (by omega)).trans HQ0.out
  have q1 := (hb2.block (w.heap.size + 1) (by omega)).trans HQ1.out
  have q2 := (hb2.block (w.heap.size + 1 + 1) (by omega)).trans HQ2.out
  clear x6 x7 x8 y4 y5 yz
  obtain ⟨_, _, _, _, _, _, _, _, x8⟩ := Bx9.of q0
  have y6 : w2.cell? ⟨w.heap.size + 1 + 1, 6, none⟩ = some (.int .i64 0) := cell_of_blk q2 6
  have y7 : w2.cell? ⟨w.heap.size + 1 + 1, 7, none⟩ = some (.slice none 0 0) := cell_of_blk q2 7
  have yz := unfrozen_of_blk q2
  have e2 := heap_setCell_same _ _ 7 _ _ (.slice p2 t.res.args.length c2) (heap_setCell_same w2 _ 6 _ _ (.int .i64 t.res.kind) q2)
  have st : ∀ F : Nat → Prop, ¬ F (w.heap.size + 1 + 1) → Stays F w2 ((w2.setCell ⟨w.heap.size + 1 + 1, 6, none⟩ (.int .i64 t.res.kind)).setCell ⟨w.heap.size + 1 + 1, 7, none⟩ (.slice p2 t.res.args.length c2)) := fun F hF => (setCell_stays _ _ _ _ F hF).trans (setCell_stays _ _ _ _ F hF)
  have HS2 := Lib.hid (st (fun z => z ≠ w.heap.size + 1 + 1) (by simp))
  have HO12 := Lib.hid ((HO1.out.stays (.of_below (HZ2.out.symm ▸ hb2))).stays (st _ (by omega)))
  have HO2 := Lib.hid (ho2.stays (st _ (by omega)))
  have HP0 := Lib.hid ((HS2.out.2 w.heap.size (by omega) (by omega)).trans q0)
  have HP1 := Lib.hid ((HS2.out.2 (w.heap.size + 1) (by omega) (by omega)).trans q1)
  have HP2 := Lib.hid e2
  have hB3 : Below w.heap.size w ((w2.setCell ⟨w.heap.size + 1 + 1, 6, none⟩ (.int .i64 t.res.kind)).setCell ⟨w.heap.size + 1 + 1, 7, none⟩ (.slice p2 t.res.args.length c2)) :=
    ((HB2.out.trans (hb2.mono (by omega))).setCell (p := ⟨w.heap.size + 1 + 1, 6, none⟩) (by show w.heap.size ≤ w.heap.size + 1 + 1; omega) _).setCell (p := ⟨w.heap.size + 1 + 1, 7, none⟩) (by show w.heap.size ≤ w.heap.size + 1 + 1; omega) _
  have HB3 := Lib.hid hB3
  have HZ3 := Lib.hid (show ((w2.setCell ⟨w.heap.size + 1 + 1, 6, none⟩ (.int .i64 t.res.kind)).setCell ⟨w.heap.size + 1 + 1, 7, none⟩ (.slice p2 t.res.args.length c2)).heap.size = w2.heap.size by simp [World.setCell])
  have HC3 := Lib.hid (HH.out _ hB3)
  have L2 := Lib.hid hb2s
  clear q0 q1 q2 e2 st hB3 ho2 hb2 hb2s hl1
  go_wp2_with fail
  refine HC3.out.mono ?_
  rintro e w3 ⟨v3, rfl, ho3, hb3⟩
  obtain ⟨p3, c3, rfl⟩ := ho3.form
  have hb3s := hb3.size
  rw [HZ3.out] at hb3 hb3s ho3
  have hl1 := L1.out
  have hl2 := L2.out
  have q1 := (hb3.block (w.heap.size + 1) (by omega)).trans HP1.out
  have q2 := (hb3.block (w.heap.size + 1 + 1) (by omega)).trans HP2.out
  clear x8 y6 y7 yz
  have y0 : w3.cell? ⟨w.heap.size + 1 + 1, 0, none⟩ = some (.int .i64 t.kind) := cell_of_blk q2 0
  have y1 : w3.cell? ⟨w.heap.size + 1 + 1, 1, none⟩ = some (.string t.name) := cell_of_blk q2 1
  have y2 : w3.cell? ⟨w.heap.size + 1 + 1, 2, none⟩ = some (.string t.other) := cell_of_blk q2 2
  have y3 : w3.cell? ⟨w.heap.size + 1 + 1, 3, none⟩ = some (.int .i64 t.n) := cell_of_blk q2 3
  have y4 : w3.cell? ⟨w.heap.size + 1 + 1, 4, none⟩ = some (.int .i64 t.ty.kind) := cell_of_blk q2 4
  have y5 : w3.cell? ⟨w.heap.size + 1 + 1, 5, none⟩ = some (.slice p1 t.ty.args.length c1) := cell_of_blk q2 5
  have y6 : w3.cell? ⟨w.heap.size + 1 + 1, 6, none⟩ = some (.int .i64 t.res.kind) := cell_of_blk q2 6
  have y7 : w3.cell? ⟨w.heap.size + 1 + 1, 7, none⟩ = some (.slice p2 t.res.args.length c2) := cell_of_blk q2 7
  have y8 : w3.cell? ⟨w.heap.size + 1 + 1, 8, none⟩ = some (.slice none 0 0) := cell_of_blk q2 8
  have yz := unfrozen_of_blk q2
  have z0 : w3.cell? ⟨w.heap.size + 1, 0, none⟩ = some (.int .i64 0) := cell_of_blk q1 0
  have z1 : w3.cell? ⟨w.heap.size + 1, 1, none⟩ = some (.string ⟨#[]⟩) := cell_of_blk q1 1
  have z2 : w3.cell? ⟨w.heap.size + 1, 2, none⟩ = some (.string ⟨#[]⟩) := cell_of_blk q1 2
  have z3 : w3.cell? ⟨w.heap.size + 1, 3, none⟩ = some (.int .i64 0) := cell_of_blk q1 3
  have z4 : w3.cell? ⟨w.heap.size + 1, 4, none⟩ = some (.int .i64 0) := cell_of_blk q1 4
  have z5 : w3.cell? ⟨w.heap.size + 1, 5, none⟩ = some (.slice none 0 0) := cell_of_blk q1 5
  have z6 : w3.cell? ⟨w.heap.size + 1, 6, none⟩ = some (.int .i64 0) := cell_of_blk q1 6
  have z7 : w3.cell? ⟨w.heap.size + 1, 7, none⟩ = some (.slice none 0 0) := cell_of_blk q1 7
  have z8 : w3.cell? ⟨w.heap.size + 1, 8, none⟩ = some (.slice none 0 0) := cell_of_blk q1 8
  have zz := unfrozen_of_blk q1
  have hb3' : Below _ _ w3 := HZ3.out.symm ▸ hb3
  have HFIN := Lib.hid (OSt9 (t := t) (F := fun g => w.heap.size + 3 ≤ g ∧ g < w3.heap.size) (HO12.out.keep hb3') (HO2.out.keep hb3') ho3 (fun z hz => by omega) (fun z hz => by omega) (fun z hz => by omega))
  have HB4 := Lib.hid (HB3.out.trans (hb3'.mono HB3.out.size))
  clear q1 q2 ho3 hb3 hb3' hb3s hl1 hl2
  go_wp2_with fail
  refine bodyPost_ret (v := tmV t p1 c1 p2 c2 p3 c3) ?_ rfl ?_
  · rw [results_cell1 rfl]
    go_simp
  · refine ⟨_, rfl, ⟨p1, c1, p2, c2, p3, c3, rfl, OSt.mono (OSt.stays HFIN.out ?_) (fun z hz => ⟨by omega, ?_⟩)⟩, ?_⟩
    · iterate 10 (refine Stays.trans ?_ (setCell_stays _ _ _ _ _ (by omega)))
      exact Stays.refl _ _
    · have := hz.2
      simp [World.setCell]
      omega
    iterate 10 (refine Below.setCell ?_ (by dsimp only; omega) _)
    exact HB4.out
end Go.Proofs.YtnciibngcaajgaaDoor
