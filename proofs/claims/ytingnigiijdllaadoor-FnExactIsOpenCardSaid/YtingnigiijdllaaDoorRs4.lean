/-
  Several texts of the proof in one (each says below what it holds): TmFieldsOth TmFields KA TmIsT TmValid TmWalk LvP Strs Copy AppS Index UniteSpec Without FreeP RsP TmAny LvS.
-/
import Derived.Test.YtingnigiijdllaaDoorRs3
import Derived.Test.YtingnigiijdllaaDoorRs1
import Derived.Test.YtingnigiijdllaaDoorRs2
import Derived.Lib.LaidTab
import Derived.Deep.RegionHeld3
import Derived.OwnWalk
import Derived.Below
import Derived.Test.YtingnigiijdllaaDoorProg
import Derived.WalkSmall
import Derived.Laws.OwnMore
import Derived.Laws.AppendOwn
set_option linter.unusedVariables false
set_option linter.unusedSimpArgs false
namespace Go.Proofs.YtingnigiijdllaaDoor
open Go Go.RowKit

set_option maxRecDepth 100000 in
set_option maxHeartbeats 8000000 in
theorem fieldsSOth {C : Nat → Prop} (t : Tm) (tp : Option Addr) (tc : Nat) (rp : Option Addr) (rc : Nat) (p : Option Addr) (c : Nat) (w : World) (hT : TM' w C t tp tc rp rc p c) (hn : t.wt ≤ 2097152) (k : ¬ t.kind = 6 ∧ ¬ t.kind = 9) :
    Calls Tryd.prog 47 #[tmV t tp tc rp rc p c] w (Tells t.FieldsOk w) := by
  have hw := t.wt_eq
  have n1 : nodesS t.ty.args ≤ 2097152 := by omega
  have n2 : nodesS t.res.args ≤ 2097152 := by omega
  have HB := Lib.hid (al_below w (.cells (tmC t tp tc rp rc p c) 35))
  have HX := Lib.hid (Bx9.new w t tp tc rp rc p c 35)
  have HTY := Lib.hid (fun (W : World) (hW : Below w.heap.size w W) => (⟨_, rfl, hT.ty.keep hW⟩ : TT W C t.ty (.agg #[.int .i64 t.ty.kind, .slice tp t.ty.args.length tc])))
  have HRS := Lib.hid (fun (W : World) (hW : Below w.heap.size w W) => (⟨_, rfl, hT.res.keep hW⟩ : TT W C t.res (.agg #[.int .i64 t.res.kind, .slice rp t.res.args.length rc])))
  have HNM := Lib.hid (fun W => namesS_any t tp tc rp rc p c W (by omega) (by omega))
  clear hT hw hn
  cases hvt : t.ty.valid
  all_goals
    cases hvr : t.res.valid
  all_goals
    have HVT := Lib.hid hvt
    have HVR0 := Lib.hid hvr
    have HVTC := Lib.hid (fun W hW => valid_lit (HTY.out W hW) n1 _ HVT.out)
    have HVRC := Lib.hid (fun W hW => valid_lit (HRS.out W hW) n2 _ HVR0.out)
    clear hvt hvr
  all_goals
    go_enter Tryd.func47, Tryd.ntmps47
  · obtain ⟨k6, k9⟩ := k
    have HK6 := Lib.hid k6
    have HK9 := Lib.hid k9
    have e6 : (t.kind == 6) = false := by simpa using k6
    have e9 : (t.kind == 9) = false := by simpa using k9
    have n9 : (t.kind != 9) = true := by simpa using k9
    clear k6 k9
    go_wp2_with fail
    refine (HVTC.out _ HB.out).mono ?_
    rintro e w1 ⟨rfl, hb1⟩
    have HB1 := Lib.hid (HB.out.trans (hb1.mono HB.out.size))
    have HX1 := Lib.hid (HX.out.keep hb1)
    obtain ⟨g0, g1, g2, g3, g4, g5, g6, g7, g8⟩ := HX.out.keep hb1
    clear hb1
    by_cases z1 : t.ty.kind = 0 ∧ t.ty.args.length = 0
    · have HZ1 := Lib.hid z1
      have HZC1 := Lib.hid (fun W => zeroS_yes (p := tp) (c := tc) z1 W)
      clear z1
      go_wp2_with fail
      refine (HZC1.out _).mono ?_
      rintro e w2 ⟨rfl, hb2⟩
      have HB2 := Lib.hid (HB1.out.trans (hb2.mono HB1.out.size))
      have HX2 := Lib.hid (HX1.out.keep hb2)
      clear g0 g1 g2 g3 g4 g5 g6 g7 g8
      obtain ⟨g0, g1, g2, g3, g4, g5, g6, g7, g8⟩ := HX1.out.keep hb2
      clear hb2
      have HVR := Lib.hid (HVRC.out w2.drew HB2.out.drew)
      by_cases z2 : t.res.kind = 0 ∧ t.res.args.length = 0
      · have HZ2 := Lib.hid z2
        have HZC := Lib.hid (fun W => zeroS_yes (p := rp) (c := rc) z2 W)
        clear z2
        go_wp2_with fail
        go_region_held3 (fun w' => w'.cell? ⟨w.heap.size, 0, none⟩ = some (.int .i64 t.kind) ∧ w'.cell? ⟨w.heap.size, 6, none⟩ = some (.int .i64 t.res.kind) ∧ w'.cell? ⟨w.heap.size, 7, none⟩ = some (.slice rp t.res.args.length rc) ∧ Below w.heap.size w w')
          (first
            | (go_keep; done)
            | exact ⟨g0, g6, g7, HB2.out.drew⟩
            | exact keepR hb6 (by assumption)
            | exact keepR hb5 (by assumption))
          (first
            | (go_at_call 70; refine HVR.out.mono ?_; rintro e w5 ⟨rfl, hb5⟩)
            | (go_at_call 71; refine (HZC.out _).mono ?_; rintro e w6 ⟨rfl, hb6⟩))
        rename_i hH
        clear hH
        have hbd : Below w2.heap.size w2 _ := ((Below.refl _ _).drew.trans hb5).trans (hb6.mono (by have := hb5.size; exact this))
        have HBW := Lib.hid (HB2.out.trans (hbd.mono HB2.out.size))
        clear g0 g1 g2 g3 g4 g5 g6 g7 g8
        obtain ⟨g0, g1, g2, g3, g4, g5, g6, g7, g8⟩ := HX2.out.keep hbd
        clear hbd hb5 hb6
        by_cases m2 : t.kind = 2
        · have HM2 := Lib.hid m2
          have ma := Int.le_of_eq m2
          have mb := Int.le_of_eq m2.symm
          clear m2
          by_cases hin : 0 ≤ t.n ∧ t.n ≤ 10006
          · have hd : decide (0 ≤ t.n ∧ t.n ≤ 10006) = true := decide_eq_true hin
            have HIN := Lib.hid hin
            clear hin
            go_wp2_with fail
            refine (in_any _ _ _ _).mono ?_
            rintro e w' ⟨rfl, rfl⟩
            go_wp2_with fail
            refine (HNM.out _).mono ?_
            rintro e w9 ⟨r, hr, rfl, hb9⟩
            have HR9 := Lib.hid hr
            have HB9 := Lib.hid (HBW.out.trans (hb9.mono HBW.out.size))
            clear hr hb9
            go_wp2_with fail
            go_ret
            exact ⟨_, HR9.out.trans ⟨fun h => ⟨⟨fun e => e.elim (fun e => absurd e HK6.out) (fun e => absurd e HK9.out), fun e => by rw [HVT.out] at e; cases e⟩, Or.inr HZ1.out, ⟨(fun e => absurd e HK9.out), fun e => by rw [HVR0.out] at e; cases e⟩, Or.inr HZ2.out, by rw [Tm.most, if_pos HM2.out]; exact HIN.out, h⟩, fun h => h.names⟩, rfl, HB9.out⟩
          · have hd : decide (0 ≤ t.n ∧ t.n ≤ 10006) = false := decide_eq_false hin
            have HIN := Lib.hid hin
            clear hin
            go_wp2_with fail
            refine (in_any _ _ _ _).mono ?_
            rintro e w' ⟨rfl, rfl⟩
            go_wp2_with fail
            go_ret
            exact ⟨_, lit_f (fun h => HIN.out (by have := h.n; rwa [Tm.most, if_pos HM2.out] at this)), rfl, HBW.out⟩
        have HM2 := Lib.hid m2
        by_cases m3 : t.kind = 3
        · have HM3 := Lib.hid m3
          have ma := Int.le_of_eq m3
          have mb := Int.le_of_eq m3.symm
          clear m3
          by_cases hin : 0 ≤ t.n ∧ t.n ≤ 1
          · have hd : decide (0 ≤ t.n ∧ t.n ≤ 1) = true := decide_eq_true hin
            have HIN := Lib.hid hin
            clear hin
            go_wp2_with fail
            refine (in_any _ _ _ _).mono ?_
            rintro e w' ⟨rfl, rfl⟩
            go_wp2_with fail
            refine (HNM.out _).mono ?_
            rintro e w9 ⟨r, hr, rfl, hb9⟩
            have HR9 := Lib.hid hr
            have HB9 := Lib.hid (HBW.out.trans (hb9.mono HBW.out.size))
            clear hr hb9
            go_wp2_with fail
            go_ret
            exact ⟨_, HR9.out.trans ⟨fun h => ⟨⟨fun e => e.elim (fun e => absurd e HK6.out) (fun e => absurd e HK9.out), fun e => by rw [HVT.out] at e; cases e⟩, Or.inr HZ1.out, ⟨(fun e => absurd e HK9.out), fun e => by rw [HVR0.out] at e; cases e⟩, Or.inr HZ2.out, by rw [Tm.most, if_neg HM2.out, if_pos HM3.out]; exact HIN.out, h⟩, fun h => h.names⟩, rfl, HB9.out⟩
          · have hd : decide (0 ≤ t.n ∧ t.n ≤ 1) = false := decide_eq_false hin
            have HIN := Lib.hid hin
            clear hin
            go_wp2_with fail
            refine (in_any _ _ _ _).mono ?_
            rintro e w' ⟨rfl, rfl⟩
            go_wp2_with fail
            go_ret
            exact ⟨_, lit_f (fun h => HIN.out (by have := h.n; rwa [Tm.most, if_neg HM2.out, if_pos HM3.out] at this)), rfl, HBW.out⟩
        have HM3 := Lib.hid m3
        by_cases hin : 0 ≤ t.n ∧ t.n ≤ 0
        · have hd : decide (0 ≤ t.n ∧ t.n ≤ 0) = true := decide_eq_true hin
          have HIN := Lib.hid hin
          clear hin
          go_wp2_with fail
          refine (in_any _ _ _ _).mono ?_
          rintro e w' ⟨rfl, rfl⟩
          go_wp2_with fail
          refine (HNM.out _).mono ?_
          rintro e w9 ⟨r, hr, rfl, hb9⟩
          have HR9 := Lib.hid hr
          have HB9 := Lib.hid (HBW.out.trans (hb9.mono HBW.out.size))
          clear hr hb9
          go_wp2_with fail
          go_ret
          exact ⟨_, HR9.out.trans ⟨fun h => ⟨⟨fun e => e.elim (fun e => absurd e HK6.out) (fun e => absurd e HK9.out), fun e => by rw [HVT.out] at e; cases e⟩, Or.inr HZ1.out, ⟨(fun e => absurd e HK9.out), fun e => by rw [HVR0.out] at e; cases e⟩, Or.inr HZ2.out, by rw [Tm.most, if_neg HM2.out, if_neg HM3.out]; exact HIN.out, h⟩, fun h => h.names⟩, rfl, HB9.out⟩
        · have hd : decide (0 ≤ t.n ∧ t.n ≤ 0) = false := decide_eq_false hin
          have HIN := Lib.hid hin
          clear hin
          go_wp2_with fail
          refine (in_any _ _ _ _).mono ?_
          rintro e w' ⟨rfl, rfl⟩
          go_wp2_with fail
          go_ret
          exact ⟨_, lit_f (fun h => HIN.out (by have := h.n; rwa [Tm.most, if_neg HM2.out, if_neg HM3.out] at this)), rfl, HBW.out⟩
      · have HZ2 := Lib.hid z2
        have HZC := Lib.hid (fun W => zeroS_no (p := rp) (c := rc) z2 W)
        clear z2
        go_wp2_with fail
        go_region_held3 (fun w' => w'.cell? ⟨w.heap.size, 0, none⟩ = some (.int .i64 t.kind) ∧ w'.cell? ⟨w.heap.size, 6, none⟩ = some (.int .i64 t.res.kind) ∧ w'.cell? ⟨w.heap.size, 7, none⟩ = some (.slice rp t.res.args.length rc) ∧ Below w.heap.size w w')
          (first
            | (go_keep; done)
            | exact ⟨g0, g6, g7, HB2.out.drew⟩
            | exact keepR hb6 (by assumption)
            | exact keepR hb5 (by assumption))
          (first
            | (go_at_call 70; refine HVR.out.mono ?_; rintro e w5 ⟨rfl, hb5⟩)
            | (go_at_call 71; refine (HZC.out _).mono ?_; rintro e w6 ⟨rfl, hb6⟩))
        rename_i hH
        clear hH
        have hbd : Below w2.heap.size w2 _ := ((Below.refl _ _).drew.trans hb5).trans (hb6.mono (by have := hb5.size; exact this))
        have HBW := Lib.hid (HB2.out.trans (hbd.mono HB2.out.size))
        clear g0 g1 g2 g3 g4 g5 g6 g7 g8
        obtain ⟨g0, g1, g2, g3, g4, g5, g6, g7, g8⟩ := HX2.out.keep hbd
        clear hbd hb5 hb6
        go_wp2_with fail
        go_ret
        exact ⟨_, lit_f (fun h => h.res2.elim HK9.out HZ2.out), rfl, HBW.out⟩
    · have HZ1 := Lib.hid z1
      have HZC1 := Lib.hid (fun W => zeroS_no (p := tp) (c := tc) z1 W)
      clear z1
      go_wp2_with fail
      refine (HZC1.out _).mono ?_
      rintro e w2 ⟨rfl, hb2⟩
      have HB2 := Lib.hid (HB1.out.trans (hb2.mono HB1.out.size))
      have HX2 := Lib.hid (HX1.out.keep hb2)
      clear g0 g1 g2 g3 g4 g5 g6 g7 g8
      obtain ⟨g0, g1, g2, g3, g4, g5, g6, g7, g8⟩ := HX1.out.keep hb2
      clear hb2
      go_wp2_with fail
      go_ret
      exact ⟨_, lit_f (fun h => h.ty2.elim (fun e => e.elim HK6.out HK9.out) HZ1.out), rfl, HB2.out⟩
  · obtain ⟨k6, k9⟩ := k
    have HK6 := Lib.hid k6
    have HK9 := Lib.hid k9
    have e6 : (t.kind == 6) = false := by simpa using k6
    have e9 : (t.kind == 9) = false := by simpa using k9
    have n9 : (t.kind != 9) = true := by simpa using k9
    clear k6 k9
    go_wp2_with fail
    refine (HVTC.out _ HB.out).mono ?_
    rintro e w1 ⟨rfl, hb1⟩
    have HB1 := Lib.hid (HB.out.trans (hb1.mono HB.out.size))
    have HX1 := Lib.hid (HX.out.keep hb1)
    obtain ⟨g0, g1, g2, g3, g4, g5, g6, g7, g8⟩ := HX.out.keep hb1
    clear hb1
    by_cases z1 : t.ty.kind = 0 ∧ t.ty.args.length = 0
    · have HZ1 := Lib.hid z1
      have HZC1 := Lib.hid (fun W => zeroS_yes (p := tp) (c := tc) z1 W)
      clear z1
      go_wp2_with fail
      refine (HZC1.out _).mono ?_
      rintro e w2 ⟨rfl, hb2⟩
      have HB2 := Lib.hid (HB1.out.trans (hb2.mono HB1.out.size))
      have HX2 := Lib.hid (HX1.out.keep hb2)
      clear g0 g1 g2 g3 g4 g5 g6 g7 g8
      obtain ⟨g0, g1, g2, g3, g4, g5, g6, g7, g8⟩ := HX1.out.keep hb2
      clear hb2
      have HVR := Lib.hid (HVRC.out w2.drew HB2.out.drew)
      go_wp2_with fail
      refine wp_region_noPanic ?_
      refine wp_region_held_drew (S := (fun w' => w'.cell? ⟨w.heap.size, 0, none⟩ = some (.int .i64 t.kind) ∧ w'.cell? ⟨w.heap.size, 6, none⟩ = some (.int .i64 t.res.kind) ∧ w'.cell? ⟨w.heap.size, 7, none⟩ = some (.slice rp t.res.args.length rc) ∧ Below w.heap.size w w')) (by kernel_rfl) ?_ (fun hHeld => ?_)
      · try dsimp only
        exact ⟨g0, g6, g7, HB2.out.drew⟩
      refine wpAnyH_take (i := 0) (oi := ({ dst := some 28, op := Op.fieldAddr 35 (Operand.tmp 1) 0, type := 0, pos := "l05_term.go:67", after := #[], guard := none } : Oper)) (v := ?_) rfl (by kernel_rfl) (by kernel_rfl) (by kernel_rfl) (fun _ _ _ h => h) (Or.inl ⟨by rfl, ?_⟩) (by assumption) ?_
      rotate_left
      · intro w hSw
        try dsimp only at hSw
        go_simp
        try with_reducible rfl
      try simp only [Act.put, List.setIfInBounds_toArray, List.set_cons_zero, List.set_cons_succ]
      refine wpAnyH_take (i := 1) (oi := ({ dst := some 29, op := Op.load 3 (Operand.tmp 28), type := 3, pos := "l05_term.go:67", after := #[{ on := 0, ground := Ground.data }], guard := none } : Oper)) (v := ?_) rfl (by kernel_rfl) (by kernel_rfl) (by kernel_rfl) (fun _ _ _ h => h) (Or.inl ⟨by rfl, ?_⟩) (by assumption) ?_
      rotate_left
      · intro w hSw
        try dsimp only at hSw
        go_simp
        try with_reducible rfl
      try simp only [Act.put, List.setIfInBounds_toArray, List.set_cons_zero, List.set_cons_succ]
      refine wpAnyH_take (i := 2) (oi := ({ dst := some 30, op := Op.binOp BinOp.eql 3 (Operand.tmp 29) (Operand.const (Value.int IntKind.i64 9)) 3, type := 4, pos := "l05_term.go:67", after := #[{ on := 1, ground := Ground.data }], guard := none } : Oper)) (v := ?_) rfl (by kernel_rfl) (by kernel_rfl) (by kernel_rfl) (fun _ _ _ h => h) (Or.inl ⟨by rfl, ?_⟩) (by assumption) ?_
      rotate_left
      · intro w hSw
        try dsimp only at hSw
        go_simp
        try with_reducible rfl
      try simp only [Act.put, List.setIfInBounds_toArray, List.set_cons_zero, List.set_cons_succ]
      refine wpAnyH_take (i := 3) (oi := ({ dst := some 31, op := Op.fieldAddr 35 (Operand.tmp 1) 5, type := 0, pos := "l05_term.go:67", after := #[], guard := none } : Oper)) (v := ?_) rfl (by kernel_rfl) (by kernel_rfl) (by kernel_rfl) (fun _ _ _ h => h) (Or.inl ⟨by rfl, ?_⟩) (by assumption) ?_
      rotate_left
      · intro w hSw
        try dsimp only at hSw
        go_simp
        try with_reducible rfl
      try simp only [Act.put, List.setIfInBounds_toArray, List.set_cons_zero, List.set_cons_succ]
      refine wpAnyH_take (i := 4) (oi := ({ dst := some 32, op := Op.load 32 (Operand.tmp 31), type := 32, pos := "l05_term.go:67", after := #[{ on := 3, ground := Ground.data }], guard := none } : Oper)) (v := ?_) rfl (by kernel_rfl) (by kernel_rfl) (by kernel_rfl) (fun _ _ _ h => h) (Or.inl ⟨by rfl, ?_⟩) (by assumption) ?_
      rotate_left
      · intro w hSw
        try dsimp only at hSw
        go_simp
        try with_reducible rfl
      try simp only [Act.put, List.setIfInBounds_toArray, List.set_cons_zero, List.set_cons_succ]
      refine wpAnyH_ready (rs := [5]) (by kernel_rfl) (by simp) ?_
      refine AllReadyH.cons (o := ({ dst := some 33, op := Op.call { callee := Callee.value (Operand.func 70), args := #[Operand.tmp 32], argTypes := #[32] }, type := 4, pos := "l05_term.go:67", after := #[{ on := 4, ground := Ground.data }], guard := none } : Oper)) rfl (fun K hK => ?_) AllReadyH.nil
      go_simp
      (go_at_call 70; refine HVR.out.mono ?_; rintro e w5 ⟨rfl, hb5⟩)
      refine hK.out _ _ ?_ (fun hHeld1 => ?_)
      · try dsimp only
        exact keepR hb5 (by assumption)
      clear hK K
      try simp only [Act.put, List.setIfInBounds_toArray, List.set_cons_zero, List.set_cons_succ]
      refine wpAnyH_take (i := 6) (oi := ({ dst := some 34, op := Op.binOp BinOp.neq 4 (Operand.tmp 30) (Operand.tmp 33) 4, type := 4, pos := "l05_term.go:67", after := #[{ on := 2, ground := Ground.data }, { on := 5, ground := Ground.data }], guard := none } : Oper)) (v := ?_) rfl (by kernel_rfl) (by kernel_rfl) (by kernel_rfl) (fun _ _ _ h => h) (Or.inl ⟨by rfl, ?_⟩) (by assumption) ?_
      rotate_left
      · intro w hSw
        try dsimp only at hSw
        go_simp
        try with_reducible rfl
      try simp only [Act.put, List.setIfInBounds_toArray, List.set_cons_zero, List.set_cons_succ]
      refine wpAnyH_take (i := 7) (oi := ({ dst := some 35, op := Op.move (Operand.tmp 34), type := 4, pos := "l05_term.go:67", after := #[{ on := 6, ground := Ground.data }, { on := 5, ground := Ground.chain }], guard := none } : Oper)) (v := ?_) rfl (by kernel_rfl) (by kernel_rfl) (by kernel_rfl) (fun _ _ _ h => h) (Or.inl ⟨by rfl, ?_⟩) (by assumption) ?_
      rotate_left
      · intro w hSw
        try dsimp only at hSw
        go_simp
        try with_reducible rfl
      try simp only [Act.put, List.setIfInBounds_toArray, List.set_cons_zero, List.set_cons_succ]
      refine wpAnyH_take (i := 8) (oi := ({ dst := some 36, op := Op.fieldAddr 35 (Operand.tmp 1) 0, type := 0, pos := "l05_term.go:67", after := #[{ on := 7, ground := Ground.guard }], guard := some (7, false) } : Oper)) (v := undef) rfl (by kernel_rfl) (by kernel_rfl) (by kernel_rfl) (fun _ _ _ h => h) (Or.inr ⟨by rfl, rfl⟩) (by assumption) ?_
      try simp only [Act.put, List.setIfInBounds_toArray, List.set_cons_zero, List.set_cons_succ]
      refine wpAnyH_take (i := 9) (oi := ({ dst := some 37, op := Op.load 3 (Operand.tmp 36), type := 3, pos := "l05_term.go:67", after := #[{ on := 8, ground := Ground.data }, { on := 7, ground := Ground.guard }], guard := some (7, false) } : Oper)) (v := undef) rfl (by kernel_rfl) (by kernel_rfl) (by kernel_rfl) (fun _ _ _ h => h) (Or.inr ⟨by rfl, rfl⟩) (by assumption) ?_
      try simp only [Act.put, List.setIfInBounds_toArray, List.set_cons_zero, List.set_cons_succ]
      refine wpAnyH_take (i := 10) (oi := ({ dst := some 38, op := Op.binOp BinOp.neq 3 (Operand.tmp 37) (Operand.const (Value.int IntKind.i64 9)) 3, type := 4, pos := "l05_term.go:67", after := #[{ on := 9, ground := Ground.data }, { on := 7, ground := Ground.guard }], guard := some (7, false) } : Oper)) (v := undef) rfl (by kernel_rfl) (by kernel_rfl) (by kernel_rfl) (fun _ _ _ h => h) (Or.inr ⟨by rfl, rfl⟩) (by assumption) ?_
      try simp only [Act.put, List.setIfInBounds_toArray, List.set_cons_zero, List.set_cons_succ]
      refine wpAnyH_take (i := 11) (oi := ({ dst := some 39, op := Op.move (Operand.tmp 38), type := 4, pos := "l05_term.go:67", after := #[{ on := 10, ground := Ground.data }, { on := 7, ground := Ground.chain }, { on := 7, ground := Ground.guard }], guard := some (7, false) } : Oper)) (v := undef) rfl (by kernel_rfl) (by kernel_rfl) (by kernel_rfl) (fun _ _ _ h => h) (Or.inr ⟨by rfl, rfl⟩) (by assumption) ?_
      try simp only [Act.put, List.setIfInBounds_toArray, List.set_cons_zero, List.set_cons_succ]
      refine wpAnyH_take (i := 12) (oi := ({ dst := some 40, op := Op.fieldAddr 35 (Operand.tmp 1) 5, type := 0, pos := "l05_term.go:67", after := #[{ on := 11, ground := Ground.guard }], guard := some (11, true) } : Oper)) (v := undef) rfl (by kernel_rfl) (by kernel_rfl) (by kernel_rfl) (fun _ _ _ h => h) (Or.inr ⟨by rfl, rfl⟩) (by assumption) ?_
      try simp only [Act.put, List.setIfInBounds_toArray, List.set_cons_zero, List.set_cons_succ]
      refine wpAnyH_take (i := 13) (oi := ({ dst := some 41, op := Op.load 32 (Operand.tmp 40), type := 32, pos := "l05_term.go:67", after := #[{ on := 12, ground := Ground.data }, { on := 11, ground := Ground.guard }], guard := some (11, true) } : Oper)) (v := undef) rfl (by kernel_rfl) (by kernel_rfl) (by kernel_rfl) (fun _ _ _ h => h) (Or.inr ⟨by rfl, rfl⟩) (by assumption) ?_
      try simp only [Act.put, List.setIfInBounds_toArray, List.set_cons_zero, List.set_cons_succ]
      refine wpAnyH_take (i := 14) (oi := ({ dst := some 42, op := Op.call { callee := Callee.value (Operand.func 71), args := #[Operand.tmp 41], argTypes := #[32] }, type := 4, pos := "l05_term.go:67", after := #[{ on := 13, ground := Ground.data }, { on := 11, ground := Ground.chain }, { on := 11, ground := Ground.guard }], guard := some (11, true) } : Oper)) (v := undef) rfl (by kernel_rfl) (by kernel_rfl) (by kernel_rfl) (fun _ _ _ h => h) (Or.inr ⟨by rfl, rfl⟩) (by assumption) ?_
      try simp only [Act.put, List.setIfInBounds_toArray, List.set_cons_zero, List.set_cons_succ]
      refine wpAnyH_take (i := 15) (oi := ({ dst := some 43, op := Op.unOp UnOp.not 4 (Operand.tmp 42), type := 4, pos := "l05_term.go:67", after := #[{ on := 14, ground := Ground.data }, { on := 11, ground := Ground.guard }], guard := some (11, true) } : Oper)) (v := undef) rfl (by kernel_rfl) (by kernel_rfl) (by kernel_rfl) (fun _ _ _ h => h) (Or.inr ⟨by rfl, rfl⟩) (by assumption) ?_
      try simp only [Act.put, List.setIfInBounds_toArray, List.set_cons_zero, List.set_cons_succ]
      refine wpAnyH_take (i := 16) (oi := ({ dst := some 44, op := Op.pick (Operand.tmp 39) (Operand.tmp 43) (Operand.const (Value.bool false)), type := 4, pos := "l05_term.go:67", after := #[{ on := 11, ground := Ground.data }, { on := 15, ground := Ground.data }, { on := 7, ground := Ground.guard }], guard := some (7, false) } : Oper)) (v := undef) rfl (by kernel_rfl) (by kernel_rfl) (by kernel_rfl) (fun _ _ _ h => h) (Or.inr ⟨by rfl, rfl⟩) (by assumption) ?_
      try simp only [Act.put, List.setIfInBounds_toArray, List.set_cons_zero, List.set_cons_succ]
      refine wpAnyH_take (i := 17) (oi := ({ dst := some 45, op := Op.pick (Operand.tmp 35) (Operand.const (Value.bool true)) (Operand.tmp 44), type := 4, pos := "l05_term.go:67", after := #[{ on := 7, ground := Ground.data }, { on := 16, ground := Ground.data }], guard := none } : Oper)) (v := ?_) rfl (by kernel_rfl) (by kernel_rfl) (by kernel_rfl) (fun _ _ _ h => h) (Or.inl ⟨by rfl, ?_⟩) (by assumption) ?_
      rotate_left
      · intro w hSw
        try dsimp only at hSw
        go_simp
        try with_reducible rfl
      try simp only [Act.put, List.setIfInBounds_toArray, List.set_cons_zero, List.set_cons_succ]
      refine wpAnyH_done (by kernel_rfl) ?_ _
      refine NoPanic.normal ?_
      clear hHeld hHeld1
      have HBW := Lib.hid (HB2.out.trans (((Below.refl _ _).drew.trans hb5).mono HB2.out.size))
      clear hb5
      go_wp2_with fail
      go_ret
      exact ⟨_, lit_f (fun h => by have := h.res1.2 HVR0.out; exact HK9.out this), rfl, HBW.out⟩
    · have HZ1 := Lib.hid z1
      have HZC1 := Lib.hid (fun W => zeroS_no (p := tp) (c := tc) z1 W)
      clear z1
      go_wp2_with fail
      refine (HZC1.out _).mono ?_
      rintro e w2 ⟨rfl, hb2⟩
      have HB2 := Lib.hid (HB1.out.trans (hb2.mono HB1.out.size))
      have HX2 := Lib.hid (HX1.out.keep hb2)
      clear g0 g1 g2 g3 g4 g5 g6 g7 g8
      obtain ⟨g0, g1, g2, g3, g4, g5, g6, g7, g8⟩ := HX1.out.keep hb2
      clear hb2
      go_wp2_with fail
      go_ret
      exact ⟨_, lit_f (fun h => h.ty2.elim (fun e => e.elim HK6.out HK9.out) HZ1.out), rfl, HB2.out⟩
  · obtain ⟨k6, k9⟩ := k
    have HK6 := Lib.hid k6
    have HK9 := Lib.hid k9
    have e6 : (t.kind == 6) = false := by simpa using k6
    have e9 : (t.kind == 9) = false := by simpa using k9
    have n9 : (t.kind != 9) = true := by simpa using k9
    clear k6 k9
    go_wp2_with fail
    refine (HVTC.out _ HB.out).mono ?_
    rintro e w1 ⟨rfl, hb1⟩
    have HB1 := Lib.hid (HB.out.trans (hb1.mono HB.out.size))
    have HX1 := Lib.hid (HX.out.keep hb1)
    obtain ⟨g0, g1, g2, g3, g4, g5, g6, g7, g8⟩ := HX.out.keep hb1
    clear hb1
    go_wp2_with fail
    go_ret
    exact ⟨_, lit_f (fun h => (h.ty1.2 HVT.out).elim HK6.out HK9.out), rfl, HB1.out⟩
  · obtain ⟨k6, k9⟩ := k
    have HK6 := Lib.hid k6
    have HK9 := Lib.hid k9
    have e6 : (t.kind == 6) = false := by simpa using k6
    have e9 : (t.kind == 9) = false := by simpa using k9
    have n9 : (t.kind != 9) = true := by simpa using k9
    clear k6 k9
    go_wp2_with fail
    refine (HVTC.out _ HB.out).mono ?_
    rintro e w1 ⟨rfl, hb1⟩
    have HB1 := Lib.hid (HB.out.trans (hb1.mono HB.out.size))
    have HX1 := Lib.hid (HX.out.keep hb1)
    obtain ⟨g0, g1, g2, g3, g4, g5, g6, g7, g8⟩ := HX.out.keep hb1
    clear hb1
    go_wp2_with fail
    go_ret
    exact ⟨_, lit_f (fun h => (h.ty1.2 HVT.out).elim HK6.out HK9.out), rfl, HB1.out⟩
end Go.Proofs.YtingnigiijdllaaDoor
namespace Go.Proofs.YtingnigiijdllaaDoor
open Go Go.RowKit

theorem fieldsS_any {C : Nat → Prop} (t : Tm) (tp : Option Addr) (tc : Nat) (rp : Option Addr) (rc : Nat) (p : Option Addr) (c : Nat) (w : World) (hT : TM' w C t tp tc rp rc p c) (hn : t.wt ≤ 2097152) :
    Calls Tryd.prog 47 #[tmV t tp tc rp rc p c] w (Tells t.FieldsOk w) := by
  rcases (show t.kind = 6 ∨ t.kind = 9 ∨ (¬ t.kind = 6 ∧ ¬ t.kind = 9) by omega) with k | k | k
  · exact fieldsSSix t tp tc rp rc p c w hT hn k
  · exact fieldsSNine t tp tc rp rc p c w hT hn k
  · exact fieldsSOth t tp tc rp rc p c w hT hn k
end Go.Proofs.YtingnigiijdllaaDoor
namespace Go.Proofs.YtingnigiijdllaaDoor
open Go Go.RowKit

theorem gKA : Tryd.prog.globalNamed "loop.example/g00589/impl.kindArity" = some 1 := by kernel_rfl
def kaTab : List Int := [0, 0, 0, 0, 0, 3, 1, 2, 2, 1, 1, 1, 1, 1]
def KA (w : World) : Prop := Lib.TabIs Tryd.prog w "loop.example/g00589/impl.kindArity" .i64 kaTab ∧ 1 < w.heap.size
theorem KA.below {w w' : World} (h : KA w) (hb : Below w.heap.size w w') : KA w' := ⟨var?_below hb gKA h.2 h.1, Nat.lt_of_lt_of_le h.2 hb.size⟩
theorem KA.cell {w : World} (h : KA w) (i : Nat) : w.cell? ⟨1, i, none⟩ = ((kaTab.map fun z => Value.int .i64 z).toArray)[i]? := World.var?_cell gKA h.1 i
def Tm.NodeOk (t : Tm) : Prop := t.FieldsOk ∧ (t.args.length : Int) = t.arity
end Go.Proofs.YtingnigiijdllaaDoor
namespace Go.Proofs.YtingnigiijdllaaDoor
open Go Go.RowKit

mutual
def Tm.IsT : Tm → Prop
  | .mk k a b n t r ts => IsTS ts ∧ (Tm.mk k a b n t r ts).FieldsOk ∧ (ts.length : Int) = (Tm.mk k a b n t r ts).arity
def IsTS : List Tm → Prop
  | [] => True
  | t :: ts => t.IsT ∧ IsTS ts
end
theorem Tm.IsT_eq (t : Tm) : t.IsT ↔ IsTS t.args ∧ t.FieldsOk ∧ (t.args.length : Int) = t.arity := by cases t; simp only [Tm.IsT, Tm.args]
theorem IsTS_append (a b : List Tm) : IsTS (a ++ b) ↔ IsTS a ∧ IsTS b := by
  induction a with
  | nil => simp [IsTS]
  | cons x a ih => simp only [List.cons_append, IsTS, ih, and_assoc]
theorem IsTS_take (ts : List Tm) (k : Nat) (h : k < ts.length) : IsTS (ts.take (k + 1)) ↔ IsTS (ts.take k) ∧ ts[k].IsT := by
  rw [tm_take_next h, IsTS_append]; simp [IsTS]
theorem IsTS_at (ts : List Tm) (k : Nat) (h : k < ts.length) (hs : IsTS ts) : ts[k].IsT := by
  have := (IsTS_append (ts.take (k + 1)) (ts.drop (k + 1))).1 (by rw [List.take_append_drop]; exact hs)
  exact ((IsTS_take ts k h).1 this.1).2
theorem keepN' {W w1 : World} {p : Addr} {v : Value} (hb1 : Below W.heap.size W w1) (h : W.cell? p = some v) : w1.cell? p = some v := (hb1.cell (World.block_lt_of_cell? W _ h)).trans h
theorem keep9m {w W w1 : World} {p0 p1 p2 p3 p4 p5 p6 p7 p8 : Addr} {v0 v1 v2 v3 v4 v5 v6 v7 v8 : Value} (hb1 : Below W.heap.size W w1) (h : W.cell? p0 = some v0 ∧ W.cell? p1 = some v1 ∧ W.cell? p2 = some v2 ∧ W.cell? p3 = some v3 ∧ W.cell? p4 = some v4 ∧ W.cell? p5 = some v5 ∧ W.cell? p6 = some v6 ∧ W.cell? p7 = some v7 ∧ W.cell? p8 = some v8 ∧ Below w.heap.size w W) : w1.cell? p0 = some v0 ∧ w1.cell? p1 = some v1 ∧ w1.cell? p2 = some v2 ∧ w1.cell? p3 = some v3 ∧ w1.cell? p4 = some v4 ∧ w1.cell? p5 = some v5 ∧ w1.cell? p6 = some v6 ∧ w1.cell? p7 = some v7 ∧ w1.cell? p8 = some v8 ∧ Below w.heap.size w w1 := by
  obtain ⟨h0, h1, h2, h3, h4, h5, h6, h7, h8, hz⟩ := h
  exact ⟨keepN' hb1 h0, keepN' hb1 h1, keepN' hb1 h2, keepN' hb1 h3, keepN' hb1 h4, keepN' hb1 h5, keepN' hb1 h6, keepN' hb1 h7, keepN' hb1 h8, hz.trans (hb1.mono hz.size)⟩
theorem fields_yes {C : Nat → Prop} {t : Tm} {tp rp p : Option Addr} {tc rc c : Nat} {w : World} (hT : TM' w C t tp tc rp rc p c) (hn : t.wt ≤ 2097152) (h : t.FieldsOk) :
    Calls Tryd.prog 47 #[tmV t tp tc rp rc p c] w fun e w' => e = .returned (.bool true) ∧ Below w.heap.size w w' := by
  refine (fieldsS_any t tp tc rp rc p c w hT hn).mono ?_
  rintro e w' ⟨r, hr, rfl, hw⟩
  exact ⟨by rw [hr.2 h], hw⟩
theorem fields_no {C : Nat → Prop} {t : Tm} {tp rp p : Option Addr} {tc rc c : Nat} {w : World} (hT : TM' w C t tp tc rp rc p c) (hn : t.wt ≤ 2097152) (h : ¬ t.FieldsOk) :
    Calls Tryd.prog 47 #[tmV t tp tc rp rc p c] w fun e w' => e = .returned (.bool false) ∧ Below w.heap.size w w' := by
  refine (fieldsS_any t tp tc rp rc p c w hT hn).mono ?_
  rintro e w' ⟨r, hr, rfl, hw⟩
  exact ⟨by rw [Bool.eq_false_iff.2 (fun e => h (hr.1 e))], hw⟩

set_option maxRecDepth 100000 in
set_option maxHeartbeats 4000000 in
theorem isTM_any {C : Nat → Prop} : ∀ (m : Nat) {t : Tm} {tp : Option Addr} {tc : Nat} {rp : Option Addr} {rc : Nat} {p : Option Addr} {c : Nat} (w : World), t.nodes ≤ m → TM' w C t tp tc rp rc p c → t.wt ≤ 2097152 → Calls Tryd.prog 25 #[tmV t tp tc rp rc p c] w (Tells t.IsT w)
  | 0, t, tp, tc, rp, rc, p, c, w, hm, hT, hn => by rw [t.nodes_eq] at hm; omega
  | m + 1, t, tp, tc, rp, rc, p, c, w, hm, hT, hn => by
    have HT := Lib.hid hT
    have HX0 := Lib.hid (Bx9.new w t tp tc rp rc p c 35)
    have HB0 := Lib.hid (al_below w (.cells (tmC t tp tc rp rc p c) 35))
    have hne := t.nodes_eq
    have hwe := t.wt_eq
    have hlen := wtS_ge t.args
    have HM := Lib.hid hm
    have HNE := Lib.hid hne
    have HNW := Lib.hid hn
    have HIE := Lib.hid t.IsT_eq
    have hwa : wtS t.args ≤ 2097152 := by omega
    clear hT hne hwe hm hn
    go_enter Tryd.func25, Tryd.ntmps25
    go_wp2_with fail
    go_loopw [3] (fun i wr => ∃ (k : Nat), k ≤ t.args.length ∧ i = .int .i64 k ∧ IsTS (t.args.take k) ∧ Below (w.alloc (.cells (tmC t tp tc rp rc p c) 35)).heap.size (w.alloc (.cells (tmC t tp tc rp rc p c) 35)) wr) (fun i _ => t.args.length - (intOf i).toNat)
    case atStart => exact ⟨0, Nat.zero_le _, rfl, by simp [IsTS], Below.refl _ _⟩
    case round =>
      obtain ⟨k, hk, rfl, hts, hbr⟩ := hrel
      have HTS := Lib.hid hts
      have HBR := Lib.hid hbr
      have HBW := Lib.hid (HB0.out.trans (hbr.mono HB0.out.size))
      obtain ⟨d0, d1, d2, d3, d4, d5, d6, d7, d8⟩ := HX0.out.keep hbr
      clear hbr hts
      by_cases hlk : k < t.args.length
      · obtain ⟨b, o, tp2, tc2, rp2, rc2, p2, c2, rfl, hC, hb, h9, hP⟩ := tm_part HT.out.args k hlk
        obtain ⟨g0, g1, g2, g3, g4, g5, g6, g7, g8⟩ := h9 wr (.of_below HBW.out)
        have n4 := nodesM_at t.args k hlk
        have n5 := wtS_at t.args k hlk
        have hmk : t.args[k].nodes ≤ m := by have := HM.out; have := HNE.out; omega
        have hi0 : (0 : Int) ≤ (k : Int) := Int.natCast_nonneg _
        have hi1 : (k : Int) < (t.args.length : Int) := by omega
        have HC := Lib.hid (isTM_any m wr hmk (hP.stays (.of_below HBW.out)) (by omega))
        clear hC hb h9 hP n4 n5 hmk d0 d1 d2 d3 d4 d5 d6 d7
        go_wp2_with fail
        refine HC.out.mono ?_
        rintro e w1 ⟨r, hr, rfl, hb1⟩
        have HB1 := Lib.hid (HBR.out.trans (hb1.mono HBR.out.size))
        have HR := Lib.hid hr
        clear hb1 hr
        cases hr0 : r
        · have hnf : ¬ t.args[k].IsT := fun h => by have := HR.out.2 h; rw [hr0] at this; cases this
          have HF := Lib.hid hnf
          clear hnf
          subst hr0
          go_wp2_with fail
          go_ret
          exact ⟨_, lit_f (fun h => HF.out (IsTS_at _ k hlk (HIE.out.1 h).1)), rfl, box_rest HB1.out⟩
        · have HF := Lib.hid (HR.out.1 hr0)
          subst hr0
          go_wp2_with fail
          go_roundw
          case rel => exact ⟨k + 1, by omega, by go_num, (IsTS_take _ k hlk).2 ⟨HTS.out, HF.out⟩, HB1.out⟩
          case measure => simp [intOf]; omega
      · obtain rfl : k = t.args.length := by omega
        have hall := HTS.out
        rw [List.take_length] at hall
        have HALL := Lib.hid hall
        clear hall
        by_cases hf : t.FieldsOk
        · have HFC := Lib.hid (fields_yes (w := wr.drew) (C := C) (HT.out.stays (.of_below HBW.out.drew)) HNW.out hf)
          have HF := Lib.hid hf
          clear hf
          go_wp2_with fail
          go_region_held3 (fun w' => w'.cell? ⟨w.heap.size, 0, none⟩ = some (.int .i64 t.kind) ∧ w'.cell? ⟨w.heap.size, 1, none⟩ = some (.string t.name) ∧ w'.cell? ⟨w.heap.size, 2, none⟩ = some (.string t.other) ∧ w'.cell? ⟨w.heap.size, 3, none⟩ = some (.int .i64 t.n) ∧ w'.cell? ⟨w.heap.size, 4, none⟩ = some (.int .i64 t.ty.kind) ∧ w'.cell? ⟨w.heap.size, 5, none⟩ = some (.slice tp t.ty.args.length tc) ∧ w'.cell? ⟨w.heap.size, 6, none⟩ = some (.int .i64 t.res.kind) ∧ w'.cell? ⟨w.heap.size, 7, none⟩ = some (.slice rp t.res.args.length rc) ∧ w'.cell? ⟨w.heap.size, 8, none⟩ = some (.slice p t.args.length c) ∧ Below w.heap.size w w')
            (first
              | (go_keep; done)
              | exact ⟨d0, d1, d2, d3, d4, d5, d6, d7, d8, HBW.out.drew⟩
              | exact keep9m hb6 (by assumption)
              | exact keep9m hb5 (by assumption))
            (first
              | (go_at_call 47; refine HFC.out.mono ?_; rintro e w5 ⟨rfl, hb5⟩)
              | (go_at_call 48; refine (arityS_any t tp tc rp rc p c _).mono ?_; rintro e w6 ⟨rfl, hb6⟩))
          rename_i hH
          have HB7 := Lib.hid hH.2.2.2.2.2.2.2.2.2
          clear hH hb5 hb6
          by_cases har : (t.args.length : Int) = t.arity
          · have HA := Lib.hid har
            have har1 : ((t.args.length : Int) == t.arity) = true := by rw [beq_iff_eq]; exact har
            clear har
            go_wp2_with fail
            go_ret
            exact ⟨_, lit_t (HIE.out.2 ⟨HALL.out, HF.out, HA.out⟩), (by first | rfl | (rw [har1]; rfl)), HB7.out⟩
          · have HA := Lib.hid har
            have har1 : ((t.args.length : Int) == t.arity) = false := by rw [beq_eq_false_iff_ne]; exact har
            clear har
            go_wp2_with fail
            go_ret
            exact ⟨_, lit_f (fun h => HA.out (HIE.out.1 h).2.2), (by first | rfl | (rw [har1]; rfl)), HB7.out⟩
        · have HFC := Lib.hid (fields_no (w := wr.drew) (C := C) (HT.out.stays (.of_below HBW.out.drew)) HNW.out hf)
          have HF := Lib.hid hf
          clear hf
          go_wp2_with fail
          refine wp_region_noPanic ?_
          refine wp_region_held_drew (S := (fun w' => w'.cell? ⟨w.heap.size, 0, none⟩ = some (.int .i64 t.kind) ∧ w'.cell? ⟨w.heap.size, 1, none⟩ = some (.string t.name) ∧ w'.cell? ⟨w.heap.size, 2, none⟩ = some (.string t.other) ∧ w'.cell? ⟨w.heap.size, 3, none⟩ = some (.int .i64 t.n) ∧ w'.cell? ⟨w.heap.size, 4, none⟩ = some (.int .i64 t.ty.kind) ∧ w'.cell? ⟨w.heap.size, 5, none⟩ = some (.slice tp t.ty.args.length tc) ∧ w'.cell? ⟨w.heap.size, 6, none⟩ = some (.int .i64 t.res.kind) ∧ w'.cell? ⟨w.heap.size, 7, none⟩ = some (.slice rp t.res.args.length rc) ∧ w'.cell? ⟨w.heap.size, 8, none⟩ = some (.slice p t.args.length c) ∧ Below w.heap.size w w')) (by kernel_rfl) ?_ (fun hHeld => ?_)
          · try dsimp only
            exact ⟨d0, d1, d2, d3, d4, d5, d6, d7, d8, HBW.out.drew⟩
          refine wpAnyH_take (i := 0) (oi := ({ dst := some 18, op := Op.load 35 (Operand.tmp 1), type := 35, pos := "l05_term.go:86", after := #[], guard := none } : Oper)) (v := ?_) rfl (by kernel_rfl) (by kernel_rfl) (by kernel_rfl) (fun _ _ _ h => h) (Or.inl ⟨by rfl, ?_⟩) (by assumption) ?_
          rotate_left
          · intro w hSw
            try dsimp only at hSw
            go_simp
            try with_reducible rfl
          try simp only [Act.put, List.setIfInBounds_toArray, List.set_cons_zero, List.set_cons_succ]
          refine wpAnyH_ready (rs := [1]) (by kernel_rfl) (by simp) ?_
          refine AllReadyH.cons (o := ({ dst := some 19, op := Op.call { callee := Callee.value (Operand.func 47), args := #[Operand.tmp 18], argTypes := #[35] }, type := 4, pos := "l05_term.go:86", after := #[{ on := 0, ground := Ground.data }], guard := none } : Oper)) rfl (fun K hK => ?_) AllReadyH.nil
          go_simp
          (go_at_call 47; refine HFC.out.mono ?_; rintro e w5 ⟨rfl, hb5⟩)
          refine hK.out _ _ ?_ (fun hHeld1 => ?_)
          · try dsimp only
            exact keep9m hb5 (by assumption)
          clear hK K
          try simp only [Act.put, List.setIfInBounds_toArray, List.set_cons_zero, List.set_cons_succ]
          refine wpAnyH_take (i := 2) (oi := ({ dst := some 20, op := Op.move (Operand.tmp 19), type := 4, pos := "l05_term.go:86", after := #[{ on := 1, ground := Ground.data }, { on := 1, ground := Ground.chain }], guard := none } : Oper)) (v := ?_) rfl (by kernel_rfl) (by kernel_rfl) (by kernel_rfl) (fun _ _ _ h => h) (Or.inl ⟨by rfl, ?_⟩) (by assumption) ?_
          rotate_left
          · intro w hSw
            try dsimp only at hSw
            go_simp
            try with_reducible rfl
          try simp only [Act.put, List.setIfInBounds_toArray, List.set_cons_zero, List.set_cons_succ]
          refine wpAnyH_take (i := 3) (oi := ({ dst := some 21, op := Op.fieldAddr 35 (Operand.tmp 1) 6, type := 0, pos := "l05_term.go:86", after := #[{ on := 2, ground := Ground.guard }], guard := some (2, true) } : Oper)) (v := undef) rfl (by kernel_rfl) (by kernel_rfl) (by kernel_rfl) (fun _ _ _ h => h) (Or.inr ⟨by rfl, rfl⟩) (by assumption) ?_
          try simp only [Act.put, List.setIfInBounds_toArray, List.set_cons_zero, List.set_cons_succ]
          refine wpAnyH_take (i := 4) (oi := ({ dst := some 22, op := Op.load 33 (Operand.tmp 21), type := 33, pos := "l05_term.go:86", after := #[{ on := 3, ground := Ground.data }, { on := 2, ground := Ground.guard }], guard := some (2, true) } : Oper)) (v := undef) rfl (by kernel_rfl) (by kernel_rfl) (by kernel_rfl) (fun _ _ _ h => h) (Or.inr ⟨by rfl, rfl⟩) (by assumption) ?_
          try simp only [Act.put, List.setIfInBounds_toArray, List.set_cons_zero, List.set_cons_succ]
          refine wpAnyH_take (i := 5) (oi := ({ dst := some 23, op := Op.call { callee := Callee.builtin Builtin.len, args := #[Operand.tmp 22], argTypes := #[33] }, type := 3, pos := "l05_term.go:86", after := #[{ on := 4, ground := Ground.data }, { on := 2, ground := Ground.guard }], guard := some (2, true) } : Oper)) (v := undef) rfl (by kernel_rfl) (by kernel_rfl) (by kernel_rfl) (fun _ _ _ h => h) (Or.inr ⟨by rfl, rfl⟩) (by assumption) ?_
          try simp only [Act.put, List.setIfInBounds_toArray, List.set_cons_zero, List.set_cons_succ]
          refine wpAnyH_take (i := 6) (oi := ({ dst := some 24, op := Op.load 35 (Operand.tmp 1), type := 35, pos := "l05_term.go:86", after := #[{ on := 2, ground := Ground.guard }], guard := some (2, true) } : Oper)) (v := undef) rfl (by kernel_rfl) (by kernel_rfl) (by kernel_rfl) (fun _ _ _ h => h) (Or.inr ⟨by rfl, rfl⟩) (by assumption) ?_
          try simp only [Act.put, List.setIfInBounds_toArray, List.set_cons_zero, List.set_cons_succ]
          refine wpAnyH_take (i := 7) (oi := ({ dst := some 25, op := Op.call { callee := Callee.value (Operand.func 48), args := #[Operand.tmp 24], argTypes := #[35] }, type := 3, pos := "l05_term.go:86", after := #[{ on := 6, ground := Ground.data }, { on := 2, ground := Ground.chain }, { on := 2, ground := Ground.guard }], guard := some (2, true) } : Oper)) (v := undef) rfl (by kernel_rfl) (by kernel_rfl) (by kernel_rfl) (fun _ _ _ h => h) (Or.inr ⟨by rfl, rfl⟩) (by assumption) ?_
          try simp only [Act.put, List.setIfInBounds_toArray, List.set_cons_zero, List.set_cons_succ]
          refine wpAnyH_take (i := 8) (oi := ({ dst := some 26, op := Op.binOp BinOp.eql 3 (Operand.tmp 23) (Operand.tmp 25) 3, type := 4, pos := "l05_term.go:86", after := #[{ on := 5, ground := Ground.data }, { on := 7, ground := Ground.data }, { on := 2, ground := Ground.guard }], guard := some (2, true) } : Oper)) (v := undef) rfl (by kernel_rfl) (by kernel_rfl) (by kernel_rfl) (fun _ _ _ h => h) (Or.inr ⟨by rfl, rfl⟩) (by assumption) ?_
          try simp only [Act.put, List.setIfInBounds_toArray, List.set_cons_zero, List.set_cons_succ]
          refine wpAnyH_take (i := 9) (oi := ({ dst := some 27, op := Op.pick (Operand.tmp 20) (Operand.tmp 26) (Operand.const (Value.bool false)), type := 4, pos := "l05_term.go:86", after := #[{ on := 2, ground := Ground.data }, { on := 8, ground := Ground.data }], guard := none } : Oper)) (v := ?_) rfl (by kernel_rfl) (by kernel_rfl) (by kernel_rfl) (fun _ _ _ h => h) (Or.inl ⟨by rfl, ?_⟩) (by assumption) ?_
          rotate_left
          · intro w hSw
            try dsimp only at hSw
            go_simp
            try with_reducible rfl
          try simp only [Act.put, List.setIfInBounds_toArray, List.set_cons_zero, List.set_cons_succ]
          refine wpAnyH_take (i := 10) (oi := ({ dst := some 2, op := Op.assign (Operand.tmp 27), type := 4, pos := "l05_term.go:86", after := #[{ on := 9, ground := Ground.data }, { on := 7, ground := Ground.chain }, { on := 0, ground := Ground.phase }, { on := 1, ground := Ground.phase }, { on := 2, ground := Ground.phase }, { on := 3, ground := Ground.phase }, { on := 4, ground := Ground.phase }, { on := 5, ground := Ground.phase }, { on := 6, ground := Ground.phase }, { on := 7, ground := Ground.phase }, { on := 8, ground := Ground.phase }, { on := 9, ground := Ground.phase }], guard := none } : Oper)) (v := ?_) rfl (by kernel_rfl) (by kernel_rfl) (by kernel_rfl) (fun _ _ _ h => h) (Or.inl ⟨by rfl, ?_⟩) (by assumption) ?_
          rotate_left
          · intro w hSw
            try dsimp only at hSw
            go_simp
            try with_reducible rfl
          try simp only [Act.put, List.setIfInBounds_toArray, List.set_cons_zero, List.set_cons_succ]
          refine wpAnyH_done (by kernel_rfl) ?_ _
          refine NoPanic.normal ?_
          clear hHeld hHeld1
          have HB7 := Lib.hid (HBW.out.trans (((Below.refl _ _).drew.trans hb5).mono HBW.out.size))
          clear hb5
          go_wp2_with fail
          go_ret
          exact ⟨_, lit_f (fun h => HF.out (HIE.out.1 h).2.1), rfl, HB7.out⟩
end Go.Proofs.YtingnigiijdllaaDoor
namespace Go.Proofs.YtingnigiijdllaaDoor
open Go Go.RowKit

end Go.Proofs.YtingnigiijdllaaDoor
namespace Go.Proofs.YtingnigiijdllaaDoor
open Go Go.RowKit

mutual
theorem isT_walk : ∀ (t : Tm) (d : Nat), t.IsT ↔ ∀ e ∈ walkM t d, e.1.NodeOk
  | .mk k a b n t r ts, d => by
    have h := isTS_walk ts (d + 1)
    rw [Tm.IsT_eq]
    show IsTS ts ∧ _ ∧ _ ↔ _
    rw [h]
    simp only [walkM, List.forall_mem_cons]
    exact And.comm
theorem isTS_walk : ∀ (ts : List Tm) (d : Nat), IsTS ts ↔ ∀ e ∈ walkSM ts d, e.1.NodeOk
  | [], d => by simp [IsTS, walkSM]
  | t :: ts, d => by
    have h1 := isTS_walk ts d
    have h2 := isT_walk t d
    simp only [IsTS, walkSM, List.forall_mem_append, h1, h2]
end
def AllOk (pre : List (Tm × Nat)) : Prop := ∀ e ∈ pre, e.1.NodeOk
theorem AllOk.next {pre : List (Tm × Nat)} {x : Tm} {d : Nat} (h : AllOk pre) (hx : x.NodeOk) : AllOk (pre ++ [(x, d)]) := by
  intro e he
  rcases List.mem_append.1 he with he | he
  · exact h e he
  · simp only [List.mem_singleton] at he; subst he; exact hx
theorem isT_of {t : Tm} (h : AllOk (walkM t 1)) : t.IsT := (isT_walk t 1).2 h
theorem not_isT_at {t x : Tm} {d : Nat} {pre : List (Tm × Nat)} (h : pre ++ [(x, d)] <+: walkM t 1) (hx : ¬ x.NodeOk) : ¬ t.IsT := fun hh =>
  hx ((isT_walk t 1).1 hh (x, d) (h.subset (by simp)))
mutual
theorem wt_walk : ∀ (t : Tm) (d : Nat) (e : Tm × Nat), e ∈ walkM t d → e.1.wt ≤ t.wt
  | .mk k a b n t r ts, d, e, h => by
    rw [walkM] at h
    rcases List.mem_cons.1 h with rfl | h
    · exact Nat.le_refl _
    · have h1 := wt_walkS ts (d + 1) e h
      simp only [Tm.wt]
      omega
theorem wt_walkS : ∀ (ts : List Tm) (d : Nat) (e : Tm × Nat), e ∈ walkSM ts d → e.1.wt ≤ wtS ts
  | [], d, e, h => by simp [walkSM] at h
  | t :: ts, d, e, h => by
    rw [walkSM] at h
    rcases List.mem_append.1 h with h | h
    · have h1 := wt_walk t d e h
      simp only [wtS]
      omega
    · have h1 := wt_walkS ts d e h
      simp only [wtS]
      omega
end
end Go.Proofs.YtingnigiijdllaaDoor
namespace Go.Proofs.YtingnigiijdllaaDoor
open Go Go.RowKit
def LvNode (e : Tm × Int) : Prop := (0 ≤ e.2 ∧ e.2 ≤ 2) ∧ e.1.NodeOk
mutual
theorem isT_walkL : ∀ (t : Tm) (l : Int), t.IsT ↔ ∀ e ∈ walkL t l, e.1.NodeOk
  | .mk k a b n t r ts, l => by
    have h := isT_walkLS ts (nextL k l)
    rw [Tm.IsT_eq]
    show IsTS ts ∧ _ ∧ _ ↔ _
    rw [h]
    simp only [walkL, List.forall_mem_cons]
    exact And.comm
theorem isT_walkLS : ∀ (ts : List Tm) (l : Int), IsTS ts ↔ ∀ e ∈ walkLS ts l, e.1.NodeOk
  | [], l => by simp [IsTS, walkLS]
  | t :: ts, l => by
    have h1 := isT_walkLS ts l
    have h2 := isT_walkL t l
    simp only [IsTS, walkLS, List.forall_mem_append, h1, h2]
end
theorem levels_walk (t : Tm) (l : Int) : (t.IsT ∧ t.lvOk l) ↔ ∀ e ∈ walkL t l, LvNode e := by
  rw [isT_walkL t l, lvOk_walk]
  exact ⟨fun h e he => ⟨h.2 e he, h.1 e he⟩, fun h => ⟨fun e he => (h e he).2, fun e he => (h e he).1⟩⟩
end Go.Proofs.YtingnigiijdllaaDoor
namespace Go.Proofs.YtingnigiijdllaaDoor
open Go Go.RowKit
def bs (xs : List ByteArray) : List (List UInt8) := xs.map (·.data.toList)
def SS (w : World) (v : Value) (xs : List ByteArray) : Prop :=
  (xs = [] ∧ ∃ a c, v = .slice a 0 c) ∨
  (1 ≤ xs.length ∧ ∃ b o c, v = .slice (some ⟨b, o, none⟩) xs.length c ∧ xs.length ≤ c ∧ b < w.heap.size ∧ ∀ j x, xs[j]? = some x → w.cell? ⟨b, o + j, none⟩ = some (.string x))
theorem ownsRow_below {w w' : World} {base : Nat} {e : TypeId} {size n : Nat} {v : Value} {xs : List Value} (h : w.ownsRow base e size v n xs) (hb : Below w.heap.size w w') : w'.ownsRow base e size v n xs := by
  refine ⟨h.1, ?_⟩
  rcases h.2 with h0 | ⟨g, cap, cur, rfl, hg, hblk, h1, h2, h3, h4⟩
  · exact Or.inl h0
  · refine Or.inr ⟨g, cap, cur, rfl, hg, ?_, h1, h2, h3, h4⟩
    have hlt : g < w.heap.size := by
      rcases Nat.lt_or_ge g w.heap.size with h' | h'
      · exact h'
      · rw [Array.getElem?_eq_none h'] at hblk; cases hblk
    rw [hb.block g hlt]; exact hblk

theorem ownsRow_mono {w : World} {base base' : Nat} {e : TypeId} {size n : Nat} {v : Value} {xs : List Value} (h : w.ownsRow base e size v n xs) (hb : base' ≤ base) : w.ownsRow base' e size v n xs := by
  refine ⟨h.1, ?_⟩
  rcases h.2 with h0 | ⟨g, cap, cur, rfl, hg, h'⟩
  · exact Or.inl h0
  · exact Or.inr ⟨g, cap, cur, rfl, Nat.le_trans hb hg, h'⟩
theorem SS_of_row {w : World} {base : Nat} {e : TypeId} {n : Nat} {v : Value} {xs : List ByteArray} (h : w.ownsRow base e 1 v n (xs.map Value.string)) : SS w v xs := by
  have hn : xs.length = n := by simpa using h.1
  rcases h.2 with ⟨rfl, h0⟩ | ⟨g, cap, cur, rfl, hg, hblk, h1, h2, h3, h4⟩
  · exact Or.inl ⟨List.eq_nil_of_length_eq_zero (by omega), _, _, rfl⟩
  · by_cases hz : n = 0
    · subst hz
      exact Or.inl ⟨List.eq_nil_of_length_eq_zero hn, _, _, rfl⟩
    · have hlt : g < w.heap.size := by
        rcases Nat.lt_or_ge g w.heap.size with h' | h'
        · exact h'
        · rw [Array.getElem?_eq_none h'] at hblk; cases hblk
      refine Or.inr ⟨by omega, g, 0, cap, by rw [hn], by omega, hlt, fun j x hj => ?_⟩
      have hj1 : j < n := by
        have := (List.getElem?_eq_some_iff.1 hj).1
        omega
      rw [Nat.zero_add, World.ownsRow.cellAt (xs := xs.map Value.string) (cap := cap) (n := n) h j (by omega), List.getElem?_map, hj]
      rfl
end Go.Proofs.YtingnigiijdllaaDoor
namespace Go.Proofs.YtingnigiijdllaaDoor
open Go Go.RowKit

theorem infoStr : (Tryd.prog.info? 9).map (fun i => (i.zero, i.size, i.bytes)) = some (some (.string ⟨#[]⟩), 1, 16) := by kernel_rfl

end Go.Proofs.YtingnigiijdllaaDoor
namespace Go.Proofs.YtingnigiijdllaaDoor
open Go Go.RowKit
def Own (w : World) (base : Nat) (v : Value) (xs : List ByteArray) : Prop := w.ownsRow base 9 1 v xs.length (xs.map Value.string)
theorem Own.ss {w : World} {base : Nat} {v : Value} {xs : List ByteArray} (h : Own w base v xs) : SS w v xs := SS_of_row h
theorem Own.below {w w' : World} {base : Nat} {v : Value} {xs : List ByteArray} (h : Own w base v xs) (hb : Below w.heap.size w w') : Own w' base v xs := ownsRow_below h hb
theorem own_empty (w : World) : Own (w.alloc (.cells #[] 9)) w.heap.size (.slice (some ⟨w.heap.size, 0, none⟩) 0 0) [] :=
  World.ownsRow_lit w #[] 0 (Nat.le_refl _) (Nat.zero_le _) rfl

theorem wpList_app_str {w0 : World} {ops : Array Oper} {rest : List Oper} {o : Oper} {a : Act} {Q : Exit → Act → World → Prop} (hgd : o.guard = none) (s x : Operand)
    (ho : o.op = .call { callee := .builtin .append, args := #[s, x], argTypes := #[56, 56] })
    (base : Nat) (v : Value) (xs : List ByteArray) (hs : a.eval s = v) (hown : Own w0 base v xs) (y : ByteArray)
    (hx : a.eval x = .slice (some ⟨w0.heap.size, 0, none⟩) 1 1) (hlen : xs.length ≤ 8388608) (hbase : base ≤ w0.heap.size)
    (h : ∀ v' w', Own w' base v' (xs ++ [y]) → Below base w0 w' → wpList Tryd.prog ops Q rest (a.put o.dst v') w') :
    wpList Tryd.prog ops Q (o :: rest) a (w0.alloc (.cells #[.string y] 9)) := by
  obtain ⟨i0, hi, hz0, hz1, hz2⟩ := info_parts infoStr
  have hown1 := hown.below ((Below.refl w0.heap.size w0).alloc (Nat.le_refl _) (.cells #[.string y] 9))
  refine wpList_append_own _ hgd s x 56 ho base 9 i0 (.string ⟨#[]⟩) 1 16 Tryd.underlying56 hi hz0 hz1 hz2 rfl (by decide) v xs.length (xs.map Value.string) hs hown1
    ⟨w0.heap.size, 0, none⟩ 1 1 [.string y] hx rfl (cell_one_new _ _ _) (fun u hu => by simp at hu; subst hu; rfl) (by unfold maxLen; omega) (by omega) (by simp; omega) ?_
  intro v' w' hown' hg _
  refine h v' w' ?_ ?_
  · have e : (xs ++ [y]).map Value.string = xs.map Value.string ++ [Value.string y] := by simp
    have e1 : (xs ++ [y]).length = xs.length + 1 := by simp
    unfold Own
    rw [e, e1]
    exact hown'
  · exact ((Below.refl base w0).alloc hbase _).grown hg (by simp; omega) (fun k hk => (hown1.lt k hk).1)
end Go.Proofs.YtingnigiijdllaaDoor
namespace Go.Proofs.YtingnigiijdllaaDoor
open Go Go.RowKit
def ixFrom (s : ByteArray) : List ByteArray → Int → Int
  | [], _ => -1
  | x :: r, k => if x = s then k else ixFrom s r (k + 1)
def ixOf (xs : List ByteArray) (s : ByteArray) : Int := ixFrom s xs 0

theorem ix_here {xs : List ByteArray} {s : ByteArray} {k : Nat} {K : Int} (hk : k < xs.length) (h : xs[k] = s) : ixFrom s (xs.drop k) K = K := by
  rw [List.drop_eq_getElem_cons hk, ixFrom, if_pos h]
theorem ix_next {xs : List ByteArray} {s : ByteArray} {k : Nat} {K : Int} (hk : k < xs.length) (h : ¬ xs[k] = s) : ixFrom s (xs.drop k) K = ixFrom s (xs.drop (k + 1)) (K + 1) := by
  rw [List.drop_eq_getElem_cons hk, ixFrom, if_neg h]
theorem ix_end {xs : List ByteArray} {s : ByteArray} {K : Int} : ixFrom s (xs.drop xs.length) K = -1 := by
  rw [List.drop_of_length_le (Nat.le_refl _), ixFrom]
theorem ix_neg {s : ByteArray} : ∀ {xs : List ByteArray} {K : Int}, 0 ≤ K → (ixFrom s xs K < 0 ↔ s ∉ xs)
  | [], K, _ => by simp [ixFrom]
  | x :: r, K, h => by
    have := ix_neg (s := s) (xs := r) (K := K + 1) (by omega)
    rw [ixFrom]
    by_cases hx : x = s
    · rw [if_pos hx]
      simp [hx]
      omega
    · rw [if_neg hx, this]
      simp [show s ≠ x from fun h => hx h.symm]
theorem ixOf_neg {s : ByteArray} {xs : List ByteArray} : ixOf xs s < 0 ↔ s ∉ xs := ix_neg (by decide)
def AnsI (n : Int) (w : World) (e : Ending) (w' : World) : Prop := e = .returned (.int .i64 n) ∧ w' = w

set_option maxRecDepth 100000 in
set_option maxHeartbeats 400000 in
theorem ixS_some (xs : List ByteArray) (s : ByteArray) (b o c : Nat) (w : World) (h1 : 1 ≤ xs.length) (hn : xs.length ≤ 9223372036854775807)
    (hcell : ∀ j x, xs[j]? = some x → w.cell? ⟨b, o + j, none⟩ = some (.string x)) :
    Calls Tryd.prog 100 #[.slice (some ⟨b, o, none⟩) xs.length c, .string s] w (AnsI (ixOf xs s) w) := by
  have HC := Lib.hid hcell
  clear hcell
  go_enter Tryd.func100, Tryd.ntmps100
  go_wp2_with fail
  go_loop [5] (fun i => ∃ k : Nat, k ≤ xs.length ∧ i = .int .i64 k ∧ Hid (ixFrom s (xs.drop k) k = ixOf xs s)) (fun i => xs.length - (intOf i).toNat)
  case atStart => exact ⟨0, Nat.zero_le _, rfl, Lib.hid rfl⟩
  case round =>
    obtain ⟨k, hk, rfl, HE⟩ := hrel
    by_cases hlk : k < xs.length
    · have c1 := HC.out k _ (List.getElem?_eq_getElem hlk)
      by_cases hx : xs[k] = s
      · have HX := Lib.hid (ix_here (K := k) hlk hx)
        have t := str_yes hx
        clear hx
        go_wp2_with fail
        go_ret
        exact ⟨by rw [← HE.out, HX.out]; rfl, rfl⟩
      · have HX := Lib.hid (ix_next (K := k) hlk hx)
        have t := str_no hx
        clear hx
        go_wp2_with fail
        go_round
        case rel => exact ⟨k + 1, by omega, by go_num, Lib.hid (by rw [← HE.out, HX.out]; rfl)⟩
        case measure => simp [intOf]; omega
    · obtain rfl : k = xs.length := by omega
      go_wp2_with fail
      go_ret
      exact ⟨by rw [← HE.out, ix_end]; rfl, rfl⟩

set_option maxRecDepth 100000 in
theorem ixS_none (a : Option Addr) (s : ByteArray) (c : Nat) (w : World) :
    Calls Tryd.prog 100 #[.slice a 0 c, .string s] w (AnsI (-1) w) := by
  go_enter Tryd.func100, Tryd.ntmps100
  go_wp2_with fail
  go_loop [5] (fun i => i = .int .i64 0) (fun _ => 0)
  case atStart => rfl
  case round =>
    obtain rfl := hrel
    go_wp2_with fail
    go_ret
    exact ⟨rfl, rfl⟩

theorem ixS_any (xs : List ByteArray) (v : Value) (s : ByteArray) (w : World) (hn : xs.length ≤ 9223372036854775807) (h : SS w v xs) :
    Calls Tryd.prog 100 #[v, .string s] w (AnsI (ixOf xs s) w) := by
  rcases h with ⟨rfl, a, c, rfl⟩ | ⟨h1, b, o, c, rfl, _, _, hcell⟩
  · exact ixS_none a s c w
  · exact ixS_some xs s b o c w h1 hn hcell

end Go.Proofs.YtingnigiijdllaaDoor
namespace Go.Proofs.YtingnigiijdllaaDoor
open Go Go.RowKit

def hasN (x : ByteArray) (acc : List ByteArray) : Bool := acc.any fun y => decide (y = x)
theorem hasN_in {acc : List ByteArray} {x : ByteArray} (h : x ∈ acc) : hasN x acc = true := by
  unfold hasN
  rw [List.any_eq_true]
  exact ⟨x, h, by simp⟩
theorem hasN_out {acc : List ByteArray} {x : ByteArray} (h : x ∉ acc) : hasN x acc = false := by
  unfold hasN
  rw [List.any_eq_false]
  intro y hy hc
  exact h (by rw [← of_decide_eq_true hc]; exact hy)
def addS (acc : List ByteArray) (x : ByteArray) : List ByteArray := if hasN x acc then acc else acc ++ [x]
def add (acc ys : List ByteArray) : List ByteArray := ys.foldl addS acc
def un (a b : List ByteArray) : List ByteArray := add (add [] a) b
theorem addS_in {acc : List ByteArray} {x : ByteArray} (h : x ∈ acc) : addS acc x = acc := by unfold addS; rw [if_pos (hasN_in h)]
theorem addS_out {acc : List ByteArray} {x : ByteArray} (h : x ∉ acc) : addS acc x = acc ++ [x] := by
  unfold addS
  rw [hasN_out h, if_neg (by decide)]
theorem add_nil (acc : List ByteArray) (ys : List ByteArray) : add acc (ys.take 0) = acc := rfl
theorem add_step (acc : List ByteArray) {ys : List ByteArray} {k : Nat} (hk : k < ys.length) : add acc (ys.take (k + 1)) = addS (add acc (ys.take k)) ys[k] := by
  rw [List.take_add_one, List.getElem?_eq_getElem hk]
  show add acc (ys.take k ++ [ys[k]]) = _
  unfold add
  rw [List.foldl_append]; rfl
theorem add_length : ∀ (ys acc : List ByteArray), (add acc ys).length ≤ acc.length + ys.length
  | [], acc => by simp [add]
  | y :: ys, acc => by
    have h := add_length ys (addS acc y)
    have h1 : (addS acc y).length ≤ acc.length + 1 := by
      unfold addS
      split
      · omega
      · simp
    have h2 : add acc (y :: ys) = add (addS acc y) ys := rfl
    rw [h2]
    simp only [List.length_cons]
    omega
theorem add_take_length (acc ys : List ByteArray) (k : Nat) : (add acc (ys.take k)).length ≤ acc.length + ys.length := by
  have h := add_length (ys.take k) acc
  have h1 := List.length_take_le' k ys
  omega
def At (w : World) (p : Option Addr) (xs : List ByteArray) : Prop := ∀ j x, xs[j]? = some x → ∃ b o, p = some ⟨b, o, none⟩ ∧ b < w.heap.size ∧ w.cell? ⟨b, o + j, none⟩ = some (.string x)
theorem SS.at {w : World} {v : Value} {xs : List ByteArray} (h : SS w v xs) : ∃ p c, v = .slice p xs.length c ∧ At w p xs := by
  rcases h with ⟨rfl, a, c, rfl⟩ | ⟨h1, b, o, c, rfl, _, hlt, hcell⟩
  · exact ⟨a, c, rfl, fun j x hj => by simp at hj⟩
  · exact ⟨_, c, rfl, fun j x hj => ⟨b, o, rfl, hlt, hcell j x hj⟩⟩

theorem ix_in {xs : List ByteArray} {s : ByteArray} (h : s ∈ xs) : decide (ixOf xs s < 0) = false := decide_eq_false (fun hc => ixOf_neg.1 hc h)
theorem ix_out {xs : List ByteArray} {s : ByteArray} (h : s ∉ xs) : decide (ixOf xs s < 0) = true := decide_eq_true (ixOf_neg.2 h)
def NewS' (ys : List ByteArray) (w : World) (e : Ending) (w' : World) : Prop := ∃ v, e = .returned v ∧ Own w' w.heap.size v ys ∧ Below w.heap.size w w'

set_option maxRecDepth 100000 in
set_option maxHeartbeats 1000000 in
theorem unS_at (a b : List ByteArray) (p q : Option Addr) (c d : Nat) (w : World) (ha : a.length ≤ 1048576) (hb : b.length ≤ 1048576) (hA : At w p a) (hB : At w q b) :
    Calls Tryd.prog 85 #[.slice p a.length c, .slice q b.length d] w (NewS' (un a b) w) := by
  have HA := Lib.hid hA
  have HQ := Lib.hid hB
  clear hA hB
  go_enter Tryd.func85, Tryd.ntmps85
  go_wp2_with fail
  go_loopw [5, 6] (fun v i wr => ∃ k : Nat, k ≤ a.length ∧ i = .int .i64 k ∧ Own wr w.heap.size v (add [] (a.take k)) ∧ Below w.heap.size w wr) (fun _ i _ => a.length - (intOf i).toNat)
  case atStart => exact ⟨0, Nat.zero_le _, rfl, own_empty w, (Below.refl _ _).alloc (Nat.le_refl _) _⟩
  case round =>
    obtain ⟨k, hk, rfl, hown, hbr⟩ := hrel
    have hsz := hbr.size
    have HO := Lib.hid hown
    have HB := Lib.hid hbr
    clear hown hbr
    by_cases hlk : k < a.length
    · obtain ⟨b0, o0, rfl, hb0, c0⟩ := HA.out k _ (List.getElem?_eq_getElem hlk)
      have c1 : ∀ wx, Below wr.heap.size wr wx → wx.cell? ⟨b0, o0 + k, none⟩ = some (.string a[k]) := fun wx hx => (hx.cell (p := ⟨b0, o0 + k, none⟩) (Nat.lt_of_lt_of_le hb0 hsz)).trans ((HB.out.cell (p := ⟨b0, o0 + k, none⟩) hb0).trans c0)
      have c2 := c1 wr (Below.refl _ _)
      clear c0 c1
      have hL := add_take_length [] a k
      simp only [List.length_nil, Nat.zero_add] at hL
      have HST := Lib.hid (add_step [] hlk)
      go_wp2_with fail
      refine (ixS_any _ _ a[k] wr (by omega) HO.out.ss).mono ?_
      rintro e w1 ⟨rfl, rfl⟩
      by_cases hin : a[k] ∈ add [] (a.take k)
      · have t := ix_in hin
        have HX := Lib.hid (addS_in hin)
        clear hin
        go_wp2_with fail
        go_roundw
        case rel => exact ⟨k + 1, by omega, by go_num, by rw [HST.out, HX.out]; exact HO.out, HB.out⟩
        case measure => simp [intOf]; omega
      · have t := ix_out hin
        have HX := Lib.hid (addS_out hin)
        clear hin
        go_wp2_with (at_builtin; refine wpList_app_str rfl _ _ rfl w.heap.size _ _ rfl HO.out a[k] rfl (by omega) hsz ?_; intro v' w2 hown2 hb2)
        have HR : Hid (Own w2 w.heap.size v' (add [] (a.take (k + 1)))) := Lib.hid (by rw [HST.out, HX.out]; exact hown2)
        have HB2 := Lib.hid (HB.out.trans hb2)
        clear hown2 hb2
        go_roundw
        case rel => exact ⟨k + 1, by omega, by go_num, HR.out, HB2.out⟩
        case measure => simp [intOf]; omega
    · obtain rfl : k = a.length := by omega
      have HO1 : Hid (Own wr w.heap.size u5 (add [] a)) := Lib.hid (by have := HO.out; rw [List.take_length] at this; exact this)
      clear HO
      go_wp2_with fail
      go_loopw [5, 7] (fun v i wr => ∃ k : Nat, k ≤ b.length ∧ i = .int .i64 k ∧ Own wr w.heap.size v (add (add [] a) (b.take k)) ∧ Below w.heap.size w wr) (fun _ i _ => b.length - (intOf i).toNat)
      case atStart => exact ⟨0, Nat.zero_le _, rfl, HO1.out, HB.out⟩
      case round =>
        clear HO1 HB hsz
        obtain ⟨k, hk, rfl, hown, hbr⟩ := hrel
        have hsz := hbr.size
        have HO := Lib.hid hown
        have HB := Lib.hid hbr
        clear hown hbr
        by_cases hlk : k < b.length
        · obtain ⟨b0, o0, rfl, hb0, c0⟩ := HQ.out k _ (List.getElem?_eq_getElem hlk)
          have c2 := (HB.out.cell (p := ⟨b0, o0 + k, none⟩) hb0).trans c0
          clear c0
          have hL := add_take_length (add [] a) b k
          have hL0 := add_length a []
          simp only [List.length_nil, Nat.zero_add] at hL0
          have HST := Lib.hid (add_step (add [] a) hlk)
          go_wp2_with fail
          refine (ixS_any _ _ b[k] wr (by omega) HO.out.ss).mono ?_
          rintro e w1 ⟨rfl, rfl⟩
          by_cases hin : b[k] ∈ add (add [] a) (b.take k)
          · have t := ix_in hin
            have HX := Lib.hid (addS_in hin)
            clear hin
            go_wp2_with fail
            go_roundw
            case rel => exact ⟨k + 1, by omega, by go_num, by rw [HST.out, HX.out]; exact HO.out, HB.out⟩
            case measure => simp [intOf]; omega
          · have t := ix_out hin
            have HX := Lib.hid (addS_out hin)
            clear hin
            go_wp2_with (at_builtin; refine wpList_app_str rfl _ _ rfl w.heap.size _ _ rfl HO.out b[k] rfl (by omega) hsz ?_; intro v' w2 hown2 hb2)
            have HR : Hid (Own w2 w.heap.size v' (add (add [] a) (b.take (k + 1)))) := Lib.hid (by rw [HST.out, HX.out]; exact hown2)
            have HB2 := Lib.hid (HB.out.trans hb2)
            clear hown2 hb2
            go_roundw
            case rel => exact ⟨k + 1, by omega, by go_num, HR.out, HB2.out⟩
            case measure => simp [intOf]; omega
        · obtain rfl : k = b.length := by omega
          have HO1 : Hid (Own wr w.heap.size u5 (un a b)) := Lib.hid (by have := HO.out; rw [List.take_length] at this; exact this)
          clear HO
          go_wp2_with fail
          go_ret
          exact ⟨_, rfl, HO1.out, HB.out⟩

theorem unS_any (a b : List ByteArray) (u v : Value) (w : World) (ha : a.length ≤ 1048576) (hb : b.length ≤ 1048576) (hA : SS w u a) (hB : SS w v b) :
    Calls Tryd.prog 85 #[u, v] w (NewS' (un a b) w) := by
  obtain ⟨p, c, rfl, hp⟩ := hA.at
  obtain ⟨q, d, rfl, hq⟩ := hB.at
  exact unS_at a b p q c d w ha hb hp hq
end Go.Proofs.YtingnigiijdllaaDoor
namespace Go.Proofs.YtingnigiijdllaaDoor
open Go Go.RowKit
def wo (s : ByteArray) (xs : List ByteArray) : List ByteArray := xs.filter fun x => decide (x ≠ s)
theorem wo_zero (s : ByteArray) (xs : List ByteArray) : wo s (xs.take 0) = [] := by simp [wo]
theorem wo_same {s : ByteArray} {xs : List ByteArray} {k : Nat} (hk : k < xs.length) (h : xs[k] = s) : wo s (xs.take (k + 1)) = wo s (xs.take k) := by
  rw [List.take_add_one, List.getElem?_eq_getElem hk]
  simp [wo, h]
theorem wo_other {s : ByteArray} {xs : List ByteArray} {k : Nat} (hk : k < xs.length) (h : ¬ xs[k] = s) : wo s (xs.take (k + 1)) = wo s (xs.take k) ++ [xs[k]] := by
  rw [List.take_add_one, List.getElem?_eq_getElem hk]
  show wo s (xs.take k ++ [xs[k]]) = _
  unfold wo
  rw [List.filter_append, List.filter_cons_of_pos (by simpa using h), List.filter_nil]
theorem wo_length (s : ByteArray) (xs : List ByteArray) : (wo s xs).length ≤ xs.length := List.length_filter_le _ _
theorem wo_take_length (s : ByteArray) (xs : List ByteArray) (k : Nat) : (wo s (xs.take k)).length ≤ xs.length := by
  have h1 := wo_length s (xs.take k)
  have h2 := List.length_take_le k xs
  have h3 := List.length_take_le' k xs
  omega
def NewS (ys : List ByteArray) (w : World) (e : Ending) (w' : World) : Prop := ∃ v, e = .returned v ∧ Own w' w.heap.size v ys ∧ Below w.heap.size w w'

set_option maxRecDepth 100000 in
set_option maxHeartbeats 1000000 in
theorem woS_some (xs : List ByteArray) (s : ByteArray) (b o c : Nat) (w : World) (h1 : 1 ≤ xs.length) (hn : xs.length ≤ 4194304) (hb : b < w.heap.size)
    (hcell : ∀ j x, xs[j]? = some x → w.cell? ⟨b, o + j, none⟩ = some (.string x)) :
    Calls Tryd.prog 84 #[.slice (some ⟨b, o, none⟩) xs.length c, .string s] w (NewS (wo s xs) w) := by
  have HC := Lib.hid hcell
  clear hcell
  go_enter Tryd.func84, Tryd.ntmps84
  go_wp2_with fail
  go_loopw [5, 6] (fun v i wr => ∃ k : Nat, k ≤ xs.length ∧ i = .int .i64 k ∧ Own wr w.heap.size v (wo s (xs.take k)) ∧ Below w.heap.size w wr) (fun _ i _ => xs.length - (intOf i).toNat)
  case atStart => exact ⟨0, Nat.zero_le _, rfl, by rw [wo_zero]; exact own_empty w, (Below.refl _ _).alloc (Nat.le_refl _) _⟩
  case round =>
    obtain ⟨k, hk, rfl, hown, hbr⟩ := hrel
    have hsz := hbr.size
    by_cases hlk : k < xs.length
    · have c1 : wr.cell? ⟨b, o + k, none⟩ = some (.string xs[k]) := (hbr.cell (p := ⟨b, o + k, none⟩) hb).trans (HC.out k _ (List.getElem?_eq_getElem hlk))
      have HO := Lib.hid hown
      have HB := Lib.hid hbr
      clear hown hbr
      by_cases hx : xs[k] = s
      · have t := str_yes hx
        have HX := Lib.hid (wo_same hlk hx)
        clear hx
        go_wp2_with fail
        go_roundw
        case rel => exact ⟨k + 1, by omega, by go_num, by rw [HX.out]; exact HO.out, HB.out⟩
        case measure => simp [intOf]; omega
      · have t := str_no hx
        have HX := Lib.hid (wo_other hlk hx)
        clear hx
        have hL := wo_take_length s xs k
        go_wp2_with (at_builtin; refine wpList_app_str rfl _ _ rfl w.heap.size _ _ rfl HO.out xs[k] rfl (by omega) hsz ?_; intro v' w2 hown2 hb2)
        have HR : Hid (Own w2 w.heap.size v' (wo s (xs.take (k + 1)))) := Lib.hid (by rw [HX.out]; exact hown2)
        have HB2 := Lib.hid (HB.out.trans hb2)
        clear hown2 hb2
        go_roundw
        case rel => exact ⟨k + 1, by omega, by go_num, HR.out, HB2.out⟩
        case measure => simp [intOf]; omega
    · obtain rfl : k = xs.length := by omega
      rw [List.take_length] at hown
      have HO := Lib.hid hown
      have HB := Lib.hid hbr
      clear hown hbr
      go_wp2_with fail
      go_ret
      exact ⟨_, rfl, HO.out, HB.out⟩

set_option maxRecDepth 100000 in
theorem woS_none (a : Option Addr) (s : ByteArray) (c : Nat) (w : World) :
    Calls Tryd.prog 84 #[.slice a 0 c, .string s] w (NewS [] w) := by
  go_enter Tryd.func84, Tryd.ntmps84
  go_wp2_with fail
  go_loopw [5, 6] (fun v i wr => v = .slice (some ⟨w.heap.size, 0, none⟩) 0 0 ∧ i = .int .i64 0 ∧ wr = w.alloc (.cells #[] 9)) (fun _ _ _ => 0)
  case atStart => exact ⟨rfl, rfl, rfl⟩
  case round =>
    obtain ⟨rfl, rfl, rfl⟩ := hrel
    go_wp2_with fail
    go_ret
    exact ⟨_, rfl, own_empty w, (Below.refl _ _).alloc (Nat.le_refl _) _⟩

theorem woS_any (xs : List ByteArray) (v : Value) (s : ByteArray) (w : World) (hn : xs.length ≤ 4194304) (h : SS w v xs) :
    Calls Tryd.prog 84 #[v, .string s] w (NewS (wo s xs) w) := by
  rcases h with ⟨rfl, a, c, rfl⟩ | ⟨h1, b, o, c, rfl, _, hb, hcell⟩
  · exact woS_none a s c w
  · exact woS_some xs s b o c w h1 hn hb hcell
end Go.Proofs.YtingnigiijdllaaDoor
namespace Go.Proofs.YtingnigiijdllaaDoor
open Go Go.RowKit
def Tm.bnd (t : Tm) : List ByteArray :=
  if t.kind = 6 ∧ t.args.length = 1 then [t.name] else if t.kind = 8 ∧ t.args.length = 2 then [t.name] else if t.kind = 9 ∧ t.args.length = 1 then [t.name, t.other] else []
def Tm.bndAt (t : Tm) (k : Nat) : List ByteArray := if k + 1 = t.args.length then t.bnd else []
def minus (nb p : List ByteArray) : List ByteArray := nb.foldl (fun p x => wo x p) p
def gatherU (b : Nat → List ByteArray) : Nat → List ByteArray → List (List ByteArray) → List ByteArray
  | _, acc, [] => acc
  | k, acc, p :: ps => gatherU b (k + 1) (un acc (minus (b k) p)) ps
mutual
def Tm.fv : Tm → List ByteArray
  | .mk k a o n t r ts => if k = 1 then [a] else gatherU (Tm.bndAt (.mk k a o n t r ts)) 0 [] (fvL ts)
def fvL : List Tm → List (List ByteArray)
  | [] => []
  | t :: ts => t.fv :: fvL ts
end
mutual
def Tm.occ : Tm → List ByteArray → List ByteArray
  | .mk k a o n t r ts, env => if k = 1 then (if hasN a env then [] else [a]) else occL (Tm.bndAt (.mk k a o n t r ts)) 0 ts env
def occL : (Nat → List ByteArray) → Nat → List Tm → List ByteArray → List ByteArray
  | _, _, [], _ => []
  | b, k, t :: ts, env => t.occ (env ++ b k) ++ occL b (k + 1) ts env
end

theorem add_app (acc a b : List ByteArray) : add acc (a ++ b) = add (add acc a) b := by unfold add; rw [List.foldl_append]
theorem add_mem {x : ByteArray} : ∀ (ys acc : List ByteArray), x ∈ add acc ys ↔ x ∈ acc ∨ x ∈ ys
  | [], acc => by simp [add]
  | y :: ys, acc => by
    have h : add acc (y :: ys) = add (addS acc y) ys := rfl
    rw [h, add_mem ys]
    by_cases hy : y ∈ acc
    · rw [addS_in hy]
      constructor
      · rintro (h | h)
        · exact Or.inl h
        · exact Or.inr (List.mem_cons_of_mem _ h)
      · rintro (h | h)
        · exact Or.inl h
        · rcases List.mem_cons.1 h with rfl | h
          · exact Or.inl hy
          · exact Or.inr h
    · rw [addS_out hy]
      rw [List.mem_append, List.mem_singleton, List.mem_cons, or_assoc]
theorem add_add : ∀ (ys acc pre : List ByteArray), add acc (add pre ys) = add (add acc pre) ys
  | [], acc, pre => rfl
  | y :: ys, acc, pre => by
    have h1 : add pre (y :: ys) = add (addS pre y) ys := rfl
    have h2 : add (add acc pre) (y :: ys) = add (addS (add acc pre) y) ys := rfl
    rw [h1, h2, add_add ys]
    by_cases hy : y ∈ pre
    · rw [addS_in hy, addS_in ((add_mem pre acc).2 (Or.inr hy))]
    · rw [addS_out hy, add_app]
      rfl
theorem un_eq (a b : List ByteArray) : un a b = add [] (a ++ b) := by unfold un; rw [add_app]
theorem add_nil_add (a b : List ByteArray) : add [] (add [] a ++ add [] b) = add [] (a ++ b) := by
  rw [add_app, add_add, add_add, add_app]
  rfl
theorem wo_add (s : ByteArray) : ∀ (ys acc : List ByteArray), wo s (add acc ys) = add (wo s acc) (wo s ys)
  | [], acc => by simp [add, wo]
  | y :: ys, acc => by
    have h1 : add acc (y :: ys) = add (addS acc y) ys := rfl
    rw [h1, wo_add s ys]
    by_cases hys : y = s
    · subst hys
      have h2 : wo y (y :: ys) = wo y ys := by simp [wo]
      rw [h2]
      by_cases hy : y ∈ acc
      · rw [addS_in hy]
      · rw [addS_out hy]
        congr 1
        simp [wo]
    · have h2 : wo s (y :: ys) = y :: wo s ys := by simp [wo, hys]
      have h3 : add (wo s acc) (y :: wo s ys) = add (addS (wo s acc) y) (wo s ys) := rfl
      rw [h2, h3]
      congr 1
      by_cases hy : y ∈ acc
      · rw [addS_in hy, addS_in (by unfold wo; rw [List.mem_filter]; exact ⟨hy, by simpa using hys⟩)]
      · rw [addS_out hy, addS_out (by unfold wo; rw [List.mem_filter]; exact fun h => hy h.1)]
        simp [wo, hys]
theorem minus_add : ∀ (nb ys : List ByteArray), minus nb (add [] ys) = add [] (minus nb ys)
  | [], ys => rfl
  | x :: nb, ys => by
    have h1 : ∀ p, minus (x :: nb) p = minus nb (wo x p) := fun _ => rfl
    rw [h1, h1, wo_add]
    exact minus_add nb _
theorem minus_app : ∀ (nb a b : List ByteArray), minus nb (a ++ b) = minus nb a ++ minus nb b
  | [], a, b => rfl
  | x :: nb, a, b => by
    have h1 : ∀ p, minus (x :: nb) p = minus nb (wo x p) := fun _ => rfl
    rw [h1, h1, h1, ← minus_app nb]
    congr 1
    simp [wo]
theorem minus_minus (a b p : List ByteArray) : minus (a ++ b) p = minus b (minus a p) := by unfold minus; rw [List.foldl_append]
theorem minus_filter : ∀ (nb p : List ByteArray), minus nb p = p.filter fun x => !hasN x nb
  | [], p => by
    have h : p.filter (fun x => !hasN x []) = p := List.filter_eq_self.2 (fun _ _ => rfl)
    rw [h]; rfl
  | x :: nb, p => by
    have h1 : minus (x :: nb) p = minus nb (wo x p) := rfl
    rw [h1, minus_filter nb, wo, List.filter_filter]
    congr 1
    funext y
    have h2 : hasN y (x :: nb) = (decide (x = y) || hasN y nb) := by simp [hasN]
    rw [h2]
    by_cases h : y = x
    · subst h; simp
    · have h3 : ¬ x = y := fun e => h e.symm
      simp [h, h3]
theorem minus_comm (a b p : List ByteArray) : minus a (minus b p) = minus b (minus a p) := by
  simp only [minus_filter, List.filter_filter]
  congr 1
  funext x
  rw [Bool.and_comm]
theorem minus_nil : ∀ (nb : List ByteArray), minus nb [] = []
  | [] => rfl
  | x :: nb => minus_nil nb
theorem minus_one (nb : List ByteArray) (a : ByteArray) : minus nb [a] = if hasN a nb then [] else [a] := by
  rw [minus_filter]
  cases h : hasN a nb <;> simp [h]
theorem hasN_app (a : ByteArray) (x y : List ByteArray) : hasN a (x ++ y) = (hasN a x || hasN a y) := by simp [hasN]
mutual
theorem Tm.occ_env : ∀ (t : Tm) (env env' : List ByteArray), t.occ (env' ++ env) = minus env (t.occ env')
  | .mk k a o n t r ts, env, env' => by
    simp only [Tm.occ]
    by_cases hk : k = 1
    · rw [if_pos hk, if_pos hk]
      rw [hasN_app]
      cases h1 : hasN a env'
      · simp only [Bool.false_or, Bool.false_eq_true, if_false, minus_one]
      · simp only [Bool.true_or, if_true, minus_nil]
    · rw [if_neg hk, if_neg hk]
      exact occL_env _ 0 ts env env'
theorem occL_env : ∀ (b : Nat → List ByteArray) (k : Nat) (ts : List Tm) (env env' : List ByteArray), occL b k ts (env' ++ env) = minus env (occL b k ts env')
  | b, k, [], env, env' => by simp only [occL]; rw [minus_nil]
  | b, k, t :: ts, env, env' => by
    simp only [occL]
    rw [minus_app, occL_env b (k + 1) ts env env']
    congr 1
    rw [Tm.occ_env t (b k) (env' ++ env), Tm.occ_env t env env', Tm.occ_env t (b k) env']
    exact minus_comm _ _ _
end
mutual
theorem Tm.fv_occ : ∀ t : Tm, t.fv = add [] (t.occ [])
  | .mk k a o n t r ts => by
    simp only [Tm.fv, Tm.occ]
    by_cases hk : k = 1
    · rw [if_pos hk, if_pos hk]
      rfl
    · rw [if_neg hk, if_neg hk]
      exact gatherU_occ _ 0 ts []
theorem gatherU_occ : ∀ (b : Nat → List ByteArray) (k : Nat) (ts : List Tm) (A : List ByteArray), gatherU b k (add [] A) (fvL ts) = add [] (A ++ occL b k ts [])
  | b, k, [], A => by simp only [fvL, gatherU, occL, List.append_nil]
  | b, k, t :: ts, A => by
    simp only [fvL, gatherU, occL]
    rw [un_eq, Tm.fv_occ t, minus_add, add_nil_add, gatherU_occ b (k + 1) ts, Tm.occ_env t (b k) [], List.append_assoc]
end
mutual
def walkQ : Tm → List ByteArray → Nat → List (Tm × List ByteArray × Nat)
  | .mk k a o n t r ts, nm, d => (.mk k a o n t r ts, nm, d) :: (if k = 1 then [] else walkQS (Tm.bndAt (.mk k a o n t r ts)) 0 ts (d + 1))
def walkQS : (Nat → List ByteArray) → Nat → List Tm → Nat → List (Tm × List ByteArray × Nat)
  | _, _, [], _ => []
  | b, k, t :: ts, d => walkQ t (b k) d ++ walkQS b (k + 1) ts d
end
def hitQ (t : Tm) (st : List (List ByteArray)) : List ByteArray := if t.kind = 1 ∧ hasN t.name st.flatten = false then [t.name] else []
def pushQ (st : List (List ByteArray)) (nm : List ByteArray) (d : Nat) : List (List ByteArray) := st.take (d - 1) ++ [nm]
def foundQ : List (Tm × List ByteArray × Nat) → List (List ByteArray) → List ByteArray
  | [], _ => []
  | (t, nm, d) :: r, st => hitQ t (pushQ st nm d) ++ foundQ r (pushQ st nm d)
theorem pushQ_flat {st : List (List ByteArray)} {nm : List ByteArray} {d : Nat} : (pushQ st nm d).flatten = (st.take (d - 1)).flatten ++ nm := by simp [pushQ]
theorem pushQ_len {st : List (List ByteArray)} {nm : List ByteArray} {d : Nat} (h1 : 1 ≤ d) (h : d - 1 ≤ st.length) : (pushQ st nm d).length = d := by
  simp only [pushQ, List.length_append, List.length_take, List.length_singleton]
  omega
mutual
theorem found_walk : ∀ (t : Tm) (nm : List ByteArray) (d : Nat) (st : List (List ByteArray)) (r : List (Tm × List ByteArray × Nat)), 1 ≤ d → d - 1 ≤ st.length →
    ∃ st', st'.take (d - 1) = st.take (d - 1) ∧ d - 1 ≤ st'.length ∧ foundQ (walkQ t nm d ++ r) st = t.occ ((st.take (d - 1)).flatten ++ nm) ++ foundQ r st'
  | .mk k a o n t x ts, nm, d, st, r, h1, hd => by
    have hl := pushQ_len (nm := nm) h1 hd
    have hp : (pushQ st nm d).take (d - 1) = st.take (d - 1) := by
      unfold pushQ
      rw [List.take_append_of_le_length (by rw [List.length_take]; omega), List.take_take, Nat.min_self]
    simp only [walkQ, Tm.occ, List.cons_append, foundQ, ← pushQ_flat (nm := nm)]
    by_cases hk : k = 1
    · rw [if_pos hk, if_pos hk]
      refine ⟨pushQ st nm d, hp, by omega, ?_⟩
      rw [List.nil_append]
      congr 1
      unfold hitQ
      simp only [Tm.kind, Tm.name, hk, true_and]
      cases hasN a (pushQ st nm d).flatten <;> rfl
    · rw [if_neg hk, if_neg hk]
      obtain ⟨st', e1, e2, e3⟩ := found_walkS (Tm.bndAt (.mk k a o n t x ts)) 0 ts (d + 1) (pushQ st nm d) r (by omega) (by omega)
      have hd1 : d + 1 - 1 = d := by omega
      rw [hd1] at e1 e2 e3
      rw [List.take_of_length_le (by omega : (pushQ st nm d).length ≤ d)] at e1 e3
      refine ⟨st', ?_, by omega, ?_⟩
      · rw [← hp, ← e1, List.take_take, Nat.min_eq_left (by omega)]
      · rw [e3]
        have hh : hitQ (.mk k a o n t x ts) (pushQ st nm d) = [] := by
          unfold hitQ
          rw [if_neg (fun h => hk h.1)]
        rw [hh, List.nil_append]
theorem found_walkS : ∀ (b : Nat → List ByteArray) (k : Nat) (ts : List Tm) (d : Nat) (st : List (List ByteArray)) (r : List (Tm × List ByteArray × Nat)), 1 ≤ d → d - 1 ≤ st.length →
    ∃ st', st'.take (d - 1) = st.take (d - 1) ∧ d - 1 ≤ st'.length ∧ foundQ (walkQS b k ts d ++ r) st = occL b k ts (st.take (d - 1)).flatten ++ foundQ r st'
  | b, k, [], d, st, r, h1, hd => ⟨st, rfl, hd, by simp only [walkQS, occL, List.nil_append]⟩
  | b, k, t :: ts, d, st, r, h1, hd => by
    obtain ⟨st1, e1, e2, e3⟩ := found_walk t (b k) d st (walkQS b (k + 1) ts d ++ r) h1 hd
    obtain ⟨st2, f1, f2, f3⟩ := found_walkS b (k + 1) ts d st1 r h1 e2
    refine ⟨st2, f1.trans e1, f2, ?_⟩
    simp only [walkQS, occL]
    rw [List.append_assoc, e3, f3, e1, List.append_assoc]
end
theorem found_occ (t : Tm) : foundQ (walkQ t [] 1) [] = t.occ [] := by
  obtain ⟨st', _, _, h⟩ := found_walk t [] 1 [] [] (Nat.le_refl _) (Nat.zero_le _)
  rw [List.append_nil] at h
  rw [h]
  simp [foundQ]
mutual
theorem walkQ_nodes : ∀ (t : Tm) (nm : List ByteArray) (d : Nat), (walkQ t nm d).length ≤ t.nodes
  | .mk k a o n t x ts, nm, d => by
    simp only [walkQ, List.length_cons, Tm.nodes]
    by_cases hk : k = 1
    · rw [if_pos hk]; simp only [List.length_nil]; omega
    · rw [if_neg hk]
      have := walkQS_nodes (Tm.bndAt (.mk k a o n t x ts)) 0 ts (d + 1)
      omega
theorem walkQS_nodes : ∀ (b : Nat → List ByteArray) (k : Nat) (ts : List Tm) (d : Nat), (walkQS b k ts d).length ≤ nodesM ts
  | b, k, [], d => by simp [walkQS]
  | b, k, t :: ts, d => by
    have h1 := walkQ_nodes t (b k) d
    have h2 := walkQS_nodes b (k + 1) ts d
    simp only [walkQS, List.length_append, nodesM]
    omega
end
end Go.Proofs.YtingnigiijdllaaDoor
namespace Go.Proofs.YtingnigiijdllaaDoor
open Go Go.RowKit
def stuckK (k : Int) : Prop := k = 2 ∨ k = 3 ∨ k = 6 ∨ k = 9
def Tm.Rsl (t : Tm) : Prop := t.IsT ∧ (stuckK t.kind ∨ (t.kind = 10 ∧ t.lvOk 0 ∧ madeS t.args 1))
theorem isT_one {t : Tm} (h : t.NodeOk) (hk : t.kind = 10 ∨ t.kind = 11 ∨ t.kind = 12 ∨ t.kind = 13) : t.args.length = 1 := by
  have h2 := h.2
  rw [Tm.arity] at h2
  have : arK t.kind (opAr t.name.toList) = 1 := by
    rcases hk with hk | hk | hk | hk <;> rw [hk] <;> rfl
  omega
theorem isT_node (t : Tm) : t.IsT ↔ t.NodeOk ∧ IsTS t.args := by
  rw [t.IsT_eq]
  exact ⟨fun h => ⟨⟨h.2.1, h.2.2⟩, h.1⟩, fun h => ⟨h.2, h.1.1, h.1.2⟩⟩
theorem rsl_quote {t x : Tm} (hk : t.kind = 10) (hx : t.args = [x]) : t.Rsl ↔ t.NodeOk ∧ ((x.IsT ∧ x.lvOk 1) ∧ x.made 1) := by
  have hnl : nextL t.kind 0 = 1 := by
    unfold nextL
    rw [if_pos hk]
    unfold wrap64
    omega
  unfold Tm.Rsl
  rw [isT_node, t.lvOk_eq, hnl, hx]
  simp only [IsTS, lvOkS, madeS, and_true, stuckK, hk]
  constructor
  · rintro ⟨⟨h1, h2⟩, h3 | h3⟩
    · exact absurd h3 (by decide)
    · exact ⟨h1, ⟨h2, h3.2.1.2⟩, h3.2.2⟩
  · rintro ⟨h1, ⟨h2, h3⟩, h4⟩
    exact ⟨⟨h1, h2⟩, Or.inr ⟨trivial, ⟨by decide, h3⟩, h4⟩⟩
theorem rsl_not {t : Tm} (hk : ¬ stuckK t.kind) (h10 : ¬ t.kind = 10) : ¬ t.Rsl := fun h => by
  rcases h.2 with h | h
  · exact hk h
  · exact h10 h.1
def Tm.Opn (t : Tm) : Prop := (t.IsT ∧ t.lvOk 0) ∧ ¬ t.fv = []
abbrev noM : Tm := .mk 0 ⟨#[]⟩ ⟨#[]⟩ 0 (.mk 0 []) (.mk 0 []) []
theorem noM_wt : noM.wt = 0 := by rfl
end Go.Proofs.YtingnigiijdllaaDoor
namespace Go.Proofs.YtingnigiijdllaaDoor
open Go Go.RowKit

variable {C : Nat → Prop} {t : Tm} {v : Value} {w : World}
end Go.Proofs.YtingnigiijdllaaDoor
namespace Go.Proofs.YtingnigiijdllaaDoor
open Go Go.RowKit

variable {C : Nat → Prop}

set_option maxRecDepth 100000 in
set_option maxHeartbeats 1000000 in
theorem nextS_any (t : Tm) (tp : Option Addr) (tc : Nat) (rp : Option Addr) (rc : Nat) (p : Option Addr) (c : Nat) (n : Int) (w : World) :
    Calls Tryd.prog 74 #[tmV t tp tc rp rc p c, .int .i64 n] w fun e w' => e = .returned (.int .i64 (nextL t.kind n)) ∧ Below w.heap.size w w' := by
  have hn1 : t.kind = 10 → nextL t.kind n = wrap64 (n + 1) := fun h => by unfold nextL; rw [if_pos h]
  have hn2 : t.kind = 11 → nextL t.kind n = wrap64 (n - 1) := fun h => by unfold nextL; rw [if_neg (by omega), if_pos h]
  have hn3 : ¬ t.kind = 10 → ¬ t.kind = 11 → nextL t.kind n = n := fun h h2 => by unfold nextL; rw [if_neg h, if_neg h2]
  have HB0 := Lib.hid (al_below w (.cells (tmC t tp tc rp rc p c) 35))
  generalize nextL t.kind n = r at hn1 hn2 hn3 ⊢
  obtain ⟨g0, _, _, _, _, _, _, _, _⟩ := Bx9.new w t tp tc rp rc p c 35
  by_cases h1 : t.kind = 10
  · obtain rfl := hn1 h1
    have t1 : (t.kind == 10) = true := by simp [h1]
    clear hn1 hn2 hn3 h1
    go_enter Tryd.func74, Tryd.ntmps74
    go_wp2_with fail
    go_ret
    exact ⟨rfl, HB0.out⟩
  · by_cases h2 : t.kind = 11
    · obtain rfl := hn2 h2
      have t1 : (t.kind == 10) = false := by simp [h1]
      have t2 : (t.kind == 11) = true := by simp [h2]
      clear hn1 hn2 hn3 h1 h2
      go_enter Tryd.func74, Tryd.ntmps74
      go_wp2_with fail
      go_ret
      exact ⟨rfl, HB0.out⟩
    · obtain rfl := hn3 h1 h2
      have t1 : (t.kind == 10) = false := by simp [h1]
      have t2 : (t.kind == 11) = false := by simp [h2]
      clear hn1 hn2 hn3 h1 h2
      go_enter Tryd.func74, Tryd.ntmps74
      go_wp2_with fail
      go_ret
      exact ⟨rfl, HB0.out⟩
set_option maxRecDepth 100000 in
set_option maxHeartbeats 4000000 in
theorem l8Ok_any : ∀ (m : Nat) {t : Tm} {tp : Option Addr} {tc : Nat} {rp : Option Addr} {rc : Nat} {p : Option Addr} {c : Nat} (n : Int) (w : World), t.nodes ≤ m → TM' w C t tp tc rp rc p c → t.wt ≤ 2097152 → Calls Tryd.prog 49 #[tmV t tp tc rp rc p c, .int .i64 n] w (Tells (t.lvOk n) w)
  | 0, t, tp, tc, rp, rc, p, c, n, w, hm, hT, hn => by rw [t.nodes_eq] at hm; omega
  | m + 1, t, tp, tc, rp, rc, p, c, n, w, hm, hT, hn => by
    have HT := Lib.hid hT
    have HX0 := Lib.hid (Bx9.new w t tp tc rp rc p c 35)
    have HB0 := Lib.hid (al_below w (.cells (tmC t tp tc rp rc p c) 35))
    have hne := t.nodes_eq
    have hwe := t.wt_eq
    have hlen := wtS_ge t.args
    have HM := Lib.hid hm
    have HNE := Lib.hid hne
    have HWE := Lib.hid hwe
    have HWN := Lib.hid hn
    have HLE := Lib.hid ((t.lvOk_eq n).trans (and_congr_right fun _ => lvOkS_iff _ _))
    have hwa : wtS t.args ≤ 2097152 := by omega
    clear hT hne hwe hm hn
    go_enter Tryd.func49, Tryd.ntmps49
    go_wp2_with fail
    refine (in_any n 0 2 _).mono ?_
    rintro e w1 ⟨rfl, rfl⟩
    by_cases hin : 0 ≤ n ∧ n ≤ 2
    rotate_left
    · rw [decide_eq_false hin]
      have HIN := Lib.hid hin
      clear hin
      go_wp2_with fail
      go_ret
      exact ⟨false, by simp only [Bool.false_eq_true, false_iff]; exact fun h => HIN.out (HLE.out.1 h).1, rfl, HB0.out⟩
    rw [decide_eq_true hin]
    have HIN := Lib.hid hin
    clear hin
    go_wp2_with fail
    go_loopw [5] (fun i wr => ∃ (k : Nat), k ≤ t.args.length ∧ i = .int .i64 k ∧ (∀ x ∈ t.args.take k, (x.lvOk (nextL t.kind n))) ∧ Below (w.alloc (.cells (tmC t tp tc rp rc p c) 35)).heap.size (w.alloc (.cells (tmC t tp tc rp rc p c) 35)) wr) (fun i _ => t.args.length - (intOf i).toNat)
    case atStart => exact ⟨0, Nat.zero_le _, rfl, by simp, Below.refl _ _⟩
    case round =>
      obtain ⟨k, hk, rfl, hts, hbr⟩ := hrel
      have HTS := Lib.hid hts
      have HBR := Lib.hid hbr
      have HBW := Lib.hid (HB0.out.trans (hbr.mono HB0.out.size))
      obtain ⟨d0, d1, d2, d3, d4, d5, d6, d7, d8⟩ := HX0.out.keep hbr
      clear hbr hts
      by_cases hlk : k < t.args.length
      · obtain ⟨b, o, tp2, tc2, rp2, rc2, p2, c2, rfl, hC, hb, h9, hP⟩ := tm_part HT.out.args k hlk
        obtain ⟨g0, g1, g2, g3, g4, g5, g6, g7, g8⟩ := h9 wr (.of_below HBW.out)
        have n4 := nodesM_at t.args k hlk
        have n5 := wtS_at t.args k hlk
        have hmk : t.args[k].nodes ≤ m := by have := HM.out; have := HNE.out; omega
        have hi0 : (0 : Int) ≤ (k : Int) := Int.natCast_nonneg _
        have hi1 : (k : Int) < (t.args.length : Int) := by omega
        have HC := Lib.hid (fun (W : World) (hb : Below wr.heap.size wr W) => l8Ok_any m (nextL t.kind n) W hmk (hP.stays (.of_below (HBW.out.trans (hb.mono HBW.out.size)))) (by omega))
        clear hC hb h9 hP n4 n5 hmk
        go_wp2_with fail
        go_region_held3 (fun w' => w'.cell? ⟨w.heap.size, 0, none⟩ = some (.int .i64 t.kind) ∧ w'.cell? ⟨w.heap.size, 1, none⟩ = some (.string t.name) ∧ w'.cell? ⟨w.heap.size, 2, none⟩ = some (.string t.other) ∧ w'.cell? ⟨w.heap.size, 3, none⟩ = some (.int .i64 t.n) ∧ w'.cell? ⟨w.heap.size, 4, none⟩ = some (.int .i64 t.ty.kind) ∧ w'.cell? ⟨w.heap.size, 5, none⟩ = some (.slice tp t.ty.args.length tc) ∧ w'.cell? ⟨w.heap.size, 6, none⟩ = some (.int .i64 t.res.kind) ∧ w'.cell? ⟨w.heap.size, 7, none⟩ = some (.slice rp t.res.args.length rc) ∧ w'.cell? ⟨w.heap.size, 8, none⟩ = some (.slice (some ⟨b, o, none⟩) t.args.length c) ∧ w'.cell? ⟨b, o + k * 9, none⟩ = some (.int .i64 t.args[k].kind) ∧ w'.cell? ⟨b, o + k * 9 + 1, none⟩ = some (.string t.args[k].name) ∧ w'.cell? ⟨b, o + k * 9 + 2, none⟩ = some (.string t.args[k].other) ∧ w'.cell? ⟨b, o + k * 9 + 3, none⟩ = some (.int .i64 t.args[k].n) ∧ w'.cell? ⟨b, o + k * 9 + 4, none⟩ = some (.int .i64 t.args[k].ty.kind) ∧ w'.cell? ⟨b, o + k * 9 + 5, none⟩ = some (.slice tp2 t.args[k].ty.args.length tc2) ∧ w'.cell? ⟨b, o + k * 9 + 6, none⟩ = some (.int .i64 t.args[k].res.kind) ∧ w'.cell? ⟨b, o + k * 9 + 7, none⟩ = some (.slice rp2 t.args[k].res.args.length rc2) ∧ w'.cell? ⟨b, o + k * 9 + 8, none⟩ = some (.slice p2 t.args[k].args.length c2) ∧ Below wr.heap.size wr w')
          (first
            | (go_keep; done)
            | exact ⟨d0, d1, d2, d3, d4, d5, d6, d7, d8, g0, g1, g2, g3, g4, g5, g6, g7, g8, (Below.refl _ _).drew⟩
            | exact keep18 hb7 (by assumption)
            | exact keep18 hb6 (by assumption))
          (first
            | (go_at_call 74; refine (nextS_any t tp tc rp rc (some ⟨b, o, none⟩) c n _).mono ?_; rintro e w6 ⟨rfl, hb6⟩)
            | (go_at_call 49; refine (HC.out _ ((Below.refl _ _).drew.trans hb6)).mono ?_; rintro e w7 ⟨r, hr, rfl, hb7⟩))
        rename_i hH
        have hb2 := hH.2.2.2.2.2.2.2.2.2.2.2.2.2.2.2.2.2.2
        have HB2 := Lib.hid (HBR.out.trans (hb2.mono HBR.out.size))
        clear hH hb6 hb7 g0 g1 g2 g3 g4 g5 g6 g7 g8
        have HR := Lib.hid hr
        clear hr hb2
        cases hr0 : r
        · have hnf : ¬ (t.args[k].lvOk (nextL t.kind n)) := fun h => by have := HR.out.2 h; rw [hr0] at this; cases this
          have HF := Lib.hid hnf
          clear hnf
          subst hr0
          go_wp2_with fail
          go_ret
          exact ⟨false, by simp only [Bool.false_eq_true, false_iff]; exact fun h => HF.out ((HLE.out.1 h).2 _ (List.getElem_mem hlk)), rfl, box_rest HB2.out⟩
        · have HF := Lib.hid (HR.out.1 hr0)
          subst hr0
          go_wp2_with fail
          go_roundw
          case rel => exact ⟨k + 1, by omega, by go_num, (take_all hlk).2 ⟨HTS.out, HF.out⟩, HB2.out⟩
          case measure => simp [intOf]; omega
      · obtain rfl : k = t.args.length := by omega
        have hall := HTS.out
        rw [List.take_length] at hall
        have HALL := Lib.hid hall
        clear hall
        go_wp2_with fail
        go_ret
        exact ⟨true, by simp only [true_iff]; exact HLE.out.2 ⟨HIN.out, HALL.out⟩, rfl, HBW.out⟩

set_option maxRecDepth 100000 in
set_option maxHeartbeats 4000000 in
theorem l8Made_any : ∀ (m : Nat) {t : Tm} {tp : Option Addr} {tc : Nat} {rp : Option Addr} {rc : Nat} {p : Option Addr} {c : Nat} (n : Int) (w : World), t.nodes ≤ m → TM' w C t tp tc rp rc p c → t.wt ≤ 2097152 → Calls Tryd.prog 50 #[tmV t tp tc rp rc p c, .int .i64 n] w (Tells (t.made n) w)
  | 0, t, tp, tc, rp, rc, p, c, n, w, hm, hT, hn => by rw [t.nodes_eq] at hm; omega
  | m + 1, t, tp, tc, rp, rc, p, c, n, w, hm, hT, hn => by
    have HT := Lib.hid hT
    have HX0 := Lib.hid (Bx9.new w t tp tc rp rc p c 35)
    have HB0 := Lib.hid (al_below w (.cells (tmC t tp tc rp rc p c) 35))
    have hne := t.nodes_eq
    have hwe := t.wt_eq
    have hlen := wtS_ge t.args
    have HM := Lib.hid hm
    have HNE := Lib.hid hne
    have HWE := Lib.hid hwe
    have HWN := Lib.hid hn
    have HLE := Lib.hid ((t.made_eq n).trans (and_congr_right fun _ => madeS_iff _ _))
    have hwa : wtS t.args ≤ 2097152 := by omega
    clear hT hne hwe hm hn
    go_enter Tryd.func50, Tryd.ntmps50
    obtain ⟨c0, _, _, _, _, _, _, _, _⟩ := HX0.out
    by_cases hin : t.kind = 11 ∧ n = 1
    · have t1 : (t.kind == 11) = true := by simp [hin.1]
      have t2 : (n == 1) = true := by simp [hin.2]
      have HIN := Lib.hid hin
      clear hin
      go_wp2_with fail
      go_ret
      exact ⟨false, by simp only [Bool.false_eq_true, false_iff]; exact fun h => (HLE.out.1 h).1 HIN.out, rfl, HB0.out⟩
    have HIN := Lib.hid hin
    have HTW := Lib.hid (show (t.kind == 11) = true ∧ (n == 1) = false ∨ (t.kind == 11) = false by
      by_cases h : t.kind = 11
      · exact Or.inl ⟨by simp [h], by simp; exact fun h2 => hin ⟨h, h2⟩⟩
      · exact Or.inr (by simp [h]))
    clear hin
    rcases HTW.out with ⟨t1, t2⟩ | t1
    all_goals
      go_wp2_with fail
      clear c0 t1
      try clear t2
      go_loopw [5] (fun i wr => ∃ (k : Nat), k ≤ t.args.length ∧ i = .int .i64 k ∧ (∀ x ∈ t.args.take k, (x.made (nextL t.kind n))) ∧ Below (w.alloc (.cells (tmC t tp tc rp rc p c) 35)).heap.size (w.alloc (.cells (tmC t tp tc rp rc p c) 35)) wr) (fun i _ => t.args.length - (intOf i).toNat)
      case atStart => exact ⟨0, Nat.zero_le _, rfl, by simp, Below.refl _ _⟩
      case round =>
        obtain ⟨k, hk, rfl, hts, hbr⟩ := hrel
        have HTS := Lib.hid hts
        have HBR := Lib.hid hbr
        have HBW := Lib.hid (HB0.out.trans (hbr.mono HB0.out.size))
        obtain ⟨d0, d1, d2, d3, d4, d5, d6, d7, d8⟩ := HX0.out.keep hbr
        clear hbr hts
        by_cases hlk : k < t.args.length
        · obtain ⟨b, o, tp2, tc2, rp2, rc2, p2, c2, rfl, hC, hb, h9, hP⟩ := tm_part HT.out.args k hlk
          obtain ⟨g0, g1, g2, g3, g4, g5, g6, g7, g8⟩ := h9 wr (.of_below HBW.out)
          have n4 := nodesM_at t.args k hlk
          have n5 := wtS_at t.args k hlk
          have hmk : t.args[k].nodes ≤ m := by have := HM.out; have := HNE.out; omega
          have hi0 : (0 : Int) ≤ (k : Int) := Int.natCast_nonneg _
          have hi1 : (k : Int) < (t.args.length : Int) := by omega
          have HC := Lib.hid (fun (W : World) (hb : Below wr.heap.size wr W) => l8Made_any m (nextL t.kind n) W hmk (hP.stays (.of_below (HBW.out.trans (hb.mono HBW.out.size)))) (by omega))
          clear hC hb h9 hP n4 n5 hmk
          go_wp2_with fail
          go_region_held3 (fun w' => w'.cell? ⟨w.heap.size, 0, none⟩ = some (.int .i64 t.kind) ∧ w'.cell? ⟨w.heap.size, 1, none⟩ = some (.string t.name) ∧ w'.cell? ⟨w.heap.size, 2, none⟩ = some (.string t.other) ∧ w'.cell? ⟨w.heap.size, 3, none⟩ = some (.int .i64 t.n) ∧ w'.cell? ⟨w.heap.size, 4, none⟩ = some (.int .i64 t.ty.kind) ∧ w'.cell? ⟨w.heap.size, 5, none⟩ = some (.slice tp t.ty.args.length tc) ∧ w'.cell? ⟨w.heap.size, 6, none⟩ = some (.int .i64 t.res.kind) ∧ w'.cell? ⟨w.heap.size, 7, none⟩ = some (.slice rp t.res.args.length rc) ∧ w'.cell? ⟨w.heap.size, 8, none⟩ = some (.slice (some ⟨b, o, none⟩) t.args.length c) ∧ w'.cell? ⟨b, o + k * 9, none⟩ = some (.int .i64 t.args[k].kind) ∧ w'.cell? ⟨b, o + k * 9 + 1, none⟩ = some (.string t.args[k].name) ∧ w'.cell? ⟨b, o + k * 9 + 2, none⟩ = some (.string t.args[k].other) ∧ w'.cell? ⟨b, o + k * 9 + 3, none⟩ = some (.int .i64 t.args[k].n) ∧ w'.cell? ⟨b, o + k * 9 + 4, none⟩ = some (.int .i64 t.args[k].ty.kind) ∧ w'.cell? ⟨b, o + k * 9 + 5, none⟩ = some (.slice tp2 t.args[k].ty.args.length tc2) ∧ w'.cell? ⟨b, o + k * 9 + 6, none⟩ = some (.int .i64 t.args[k].res.kind) ∧ w'.cell? ⟨b, o + k * 9 + 7, none⟩ = some (.slice rp2 t.args[k].res.args.length rc2) ∧ w'.cell? ⟨b, o + k * 9 + 8, none⟩ = some (.slice p2 t.args[k].args.length c2) ∧ Below wr.heap.size wr w')
            (first
              | (go_keep; done)
              | exact ⟨d0, d1, d2, d3, d4, d5, d6, d7, d8, g0, g1, g2, g3, g4, g5, g6, g7, g8, (Below.refl _ _).drew⟩
              | exact keep18 hb7 (by assumption)
              | exact keep18 hb6 (by assumption))
            (first
              | (go_at_call 74; refine (nextS_any t tp tc rp rc (some ⟨b, o, none⟩) c n _).mono ?_; rintro e w6 ⟨rfl, hb6⟩)
              | (go_at_call 50; refine (HC.out _ ((Below.refl _ _).drew.trans hb6)).mono ?_; rintro e w7 ⟨r, hr, rfl, hb7⟩))
          rename_i hH
          have hb2 := hH.2.2.2.2.2.2.2.2.2.2.2.2.2.2.2.2.2.2
          have HB2 := Lib.hid (HBR.out.trans (hb2.mono HBR.out.size))
          clear hH hb6 hb7 g0 g1 g2 g3 g4 g5 g6 g7 g8
          have HR := Lib.hid hr
          clear hr hb2
          cases hr0 : r
          · have hnf : ¬ (t.args[k].made (nextL t.kind n)) := fun h => by have := HR.out.2 h; rw [hr0] at this; cases this
            have HF := Lib.hid hnf
            clear hnf
            subst hr0
            go_wp2_with fail
            go_ret
            exact ⟨false, by simp only [Bool.false_eq_true, false_iff]; exact fun h => HF.out ((HLE.out.1 h).2 _ (List.getElem_mem hlk)), rfl, box_rest HB2.out⟩
          · have HF := Lib.hid (HR.out.1 hr0)
            subst hr0
            go_wp2_with fail
            go_roundw
            case rel => exact ⟨k + 1, by omega, by go_num, (take_all hlk).2 ⟨HTS.out, HF.out⟩, HB2.out⟩
            case measure => simp [intOf]; omega
        · obtain rfl : k = t.args.length := by omega
          have hall := HTS.out
          rw [List.take_length] at hall
          have HALL := Lib.hid hall
          clear hall
          go_wp2_with fail
          go_ret
          exact ⟨true, by simp only [true_iff]; exact HLE.out.2 ⟨HIN.out, HALL.out⟩, rfl, HBW.out⟩

variable {t : Tm} {v : Value} {w : World}
set_option maxRecDepth 100000 in
theorem levS_at (n : Int) (h : TM w C t v) (hn : t.wt ≤ 2097152) : Calls Tryd.prog 34 #[v, .int .i64 n] w (Tells (t.IsT ∧ t.lvOk n) w) := by
  have HN := Lib.hid hn
  obtain ⟨tp, tc, rp, rc, p, c, rfl, hT⟩ := h
  have HT := Lib.hid hT
  have HX0 := Lib.hid (Bx9.new w t tp tc rp rc p c 35)
  have HB0 := Lib.hid (al_below w (.cells (tmC t tp tc rp rc p c) 35))
  clear hT hn
  go_enter Tryd.func34, Tryd.ntmps34
  go_wp2_with fail
  refine (isTM_any _ _ (Nat.le_refl _) (HT.out.stays (.of_below HB0.out)) HN.out).mono ?_
  rintro e w1 ⟨r, hr, rfl, hb1⟩
  have HR := Lib.hid hr
  have HB1 := Lib.hid (HB0.out.trans (hb1.mono HB0.out.size))
  obtain ⟨g0, g1, g2, g3, g4, g5, g6, g7, g8⟩ := HX0.out.keep hb1
  clear hr hb1
  cases r with
  | false =>
    go_wp2_with fail
    go_ret
    exact ⟨false, by simp only [Bool.false_eq_true, false_iff]; exact fun h => (by have := HR.out.2 h.1; cases this), rfl, HB1.out⟩
  | true =>
    go_wp2_with fail
    refine (l8Ok_any _ n _ (Nat.le_refl _) (HT.out.stays (.of_below HB1.out)) HN.out).mono ?_
    rintro e w2 ⟨r2, hr2, rfl, hb2⟩
    have HR2 := Lib.hid hr2
    have HB2 := Lib.hid (HB1.out.trans (hb2.mono HB1.out.size))
    clear hr2 hb2
    go_wp2_with fail
    go_ret
    exact ⟨r2, by rw [HR2.out]; exact ⟨fun h => ⟨HR.out.1 (by trivial), h⟩, fun h => h.2⟩, rfl, HB2.out⟩
end Go.Proofs.YtingnigiijdllaaDoor
