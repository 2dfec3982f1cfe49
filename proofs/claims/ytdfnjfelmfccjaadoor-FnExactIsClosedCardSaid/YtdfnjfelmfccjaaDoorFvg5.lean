/-
  Several texts of the proof in one (each says below what it holds): TmFieldsOth TmFields KA OpArI FormA ScopeA SpecEq RangeT Kind Kind2 Aid LoopW RangeD.
-/
import Derived.Test.YtdfnjfelmfccjaaDoorFvg4
import Derived.Test.YtdfnjfelmfccjaaDoorFvg3
import Derived.Test.YtdfnjfelmfccjaaDoorFvg1
import Derived.Lib.LaidTab
import Derived.Deep.RegionHeld3
import Derived.RangeFuncKeeps
import Derived.RangeFuncLeaves
import Derived.RangeFuncNested
import Derived.RangeFuncBound
import Derived.RangeFuncCalls
import Derived.Shelf.Abstract
import Derived.IntWalk
import Derived.Shelf.RegionOpen
import Derived.WalkKit
import Derived.TacticsInMore
import Derived.LoopNIn
import Derived.LoopIn
import Derived.Sort.LoopGhostIn
import Derived.Deep.LoopGhost
import Derived.Deep.CutRange
import Derived.Deep.RegionHeldLaw
/- TmFieldsOth: The contract of the model's l5Fields: one sort of kinds. -/
namespace Go.Proofs.YtdfnjfelmfccjaaDoor
open Go Go.RowKit

set_option maxRecDepth 100000 in
set_option maxHeartbeats 8000000 in
theorem fieldsSOth {C : Nat → Prop} (t : Tm) (tp : Option Addr) (tc : Nat) (rp : Option Addr) (rc : Nat) (p : Option Addr) (c : Nat) (w : World) (hT : TM' w C t tp tc rp rc p c) (hn : t.wt ≤ 2097152) (k : ¬ t.kind = 6 ∧ ¬ t.kind = 9) :
    Calls Tryd.prog 66 #[tmV t tp tc rp rc p c] w (Tells t.FieldsOk w) := by
  have hw := t.wt_eq
  have n1 : nodesS t.ty.args ≤ 2097152 := by omega
  have n2 : nodesS t.res.args ≤ 2097152 := by omega
  have HB := Lib.hid (al_below w (.cells (tmC t tp tc rp rc p c) 36))
  have HX := Lib.hid (Bx9.new w t tp tc rp rc p c 36)
  have HTY := Lib.hid (fun (W : World) (hW : Below w.heap.size w W) => (⟨_, rfl, hT.ty.keep hW⟩ : TT W C t.ty (.agg #[.int .i64 t.ty.kind, .slice tp t.ty.args.length tc])))
  have HRS := Lib.hid (fun (W : World) (hW : Below w.heap.size w W) => (⟨_, rfl, hT.res.keep hW⟩ : TT W C t.res (.agg #[.int .i64 t.res.kind, .slice rp t.res.args.length rc])))
  have HNM := Lib.hid (fun W => namesS_any t tp tc rp rc p c W (by omega) (by omega))
  clear hT hw hn
  cases hvt : t.ty.valid
  all_goals
    cases hvr : t.res.valid
  all_goals
    have HVT := Lib.hid hvt
    have HVR0 := Lib.hid hvr
    have HVTC := Lib.hid (fun W hW => valid_lit (HTY.out W hW) n1 _ HVT.out)
    have HVRC := Lib.hid (fun W hW => valid_lit (HRS.out W hW) n2 _ HVR0.out)
    clear hvt hvr
  all_goals
    go_enter Tryd.func66, Tryd.ntmps66
  · obtain ⟨k6, k9⟩ := k
    have HK6 := Lib.hid k6
    have HK9 := Lib.hid k9
    have e6 : (t.kind == 6) = false := by simpa using k6
    have e9 : (t.kind == 9) = false := by simpa using k9
    have n9 : (t.kind != 9) = true := by simpa using k9
    clear k6 k9
    go_wp2_with fail
    refine (HVTC.out _ HB.out).mono ?_
    rintro e w1 ⟨rfl, hb1⟩
    have HB1 := Lib.hid (HB.out.trans (hb1.mono HB.out.size))
    have HX1 := Lib.hid (HX.out.keep hb1)
    obtain ⟨g0, g1, g2, g3, g4, g5, g6, g7, g8⟩ := HX.out.keep hb1
    clear hb1
    by_cases z1 : t.ty.kind = 0 ∧ t.ty.args.length = 0
    · have HZ1 := Lib.hid z1
      have HZC1 := Lib.hid (fun W => zeroS_yes (p := tp) (c := tc) z1 W)
      clear z1
      go_wp2_with fail
      refine (HZC1.out _).mono ?_
      rintro e w2 ⟨rfl, hb2⟩
      have HB2 := Lib.hid (HB1.out.trans (hb2.mono HB1.out.size))
      have HX2 := Lib.hid (HX1.out.keep hb2)
      clear g0 g1 g2 g3 g4 g5 g6 g7 g8
      obtain ⟨g0, g1, g2, g3, g4, g5, g6, g7, g8⟩ := HX1.out.keep hb2
      clear hb2
      have HVR := Lib.hid (HVRC.out w2.drew HB2.out.drew)
      by_cases z2 : t.res.kind = 0 ∧ t.res.args.length = 0
      · have HZ2 := Lib.hid z2
        have HZC := Lib.hid (fun W => zeroS_yes (p := rp) (c := rc) z2 W)
        clear z2
        go_wp2_with fail
        go_region_held3 (fun w' => w'.cell? ⟨w.heap.size, 0, none⟩ = some (.int .i64 t.kind) ∧ w'.cell? ⟨w.heap.size, 6, none⟩ = some (.int .i64 t.res.kind) ∧ w'.cell? ⟨w.heap.size, 7, none⟩ = some (.slice rp t.res.args.length rc) ∧ Below w.heap.size w w')
          (first
            | (go_keep; done)
            | exact ⟨g0, g6, g7, HB2.out.drew⟩
            | exact keepR hb6 (by assumption)
            | exact keepR hb5 (by assumption))
          (first
            | (go_at_call 85; refine HVR.out.mono ?_; rintro e w5 ⟨rfl, hb5⟩)
            | (go_at_call 86; refine (HZC.out _).mono ?_; rintro e w6 ⟨rfl, hb6⟩))
        rename_i hH
        clear hH
        have hbd : Below w2.heap.size w2 _ := ((Below.refl _ _).drew.trans hb5).trans (hb6.mono (by have := hb5.size; exact this))
        have HBW := Lib.hid (HB2.out.trans (hbd.mono HB2.out.size))
        clear g0 g1 g2 g3 g4 g5 g6 g7 g8
        obtain ⟨g0, g1, g2, g3, g4, g5, g6, g7, g8⟩ := HX2.out.keep hbd
        clear hbd hb5 hb6
        by_cases m2 : t.kind = 2
        · have HM2 := Lib.hid m2
          have ma := Int.le_of_eq m2
          have mb := Int.le_of_eq m2.symm
          clear m2
          by_cases hin : 0 ≤ t.n ∧ t.n ≤ 10006
          · have hd : decide (0 ≤ t.n ∧ t.n ≤ 10006) = true := decide_eq_true hin
            have HIN := Lib.hid hin
            clear hin
            go_wp2_with fail
            refine (in_any _ _ _ _).mono ?_
            rintro e w' ⟨rfl, rfl⟩
            go_wp2_with fail
            refine (HNM.out _).mono ?_
            rintro e w9 ⟨r, hr, rfl, hb9⟩
            have HR9 := Lib.hid hr
            have HB9 := Lib.hid (HBW.out.trans (hb9.mono HBW.out.size))
            clear hr hb9
            go_wp2_with fail
            go_ret
            exact ⟨_, HR9.out.trans ⟨fun h => ⟨⟨fun e => e.elim (fun e => absurd e HK6.out) (fun e => absurd e HK9.out), fun e => by rw [HVT.out] at e; cases e⟩, Or.inr HZ1.out, ⟨(fun e => absurd e HK9.out), fun e => by rw [HVR0.out] at e; cases e⟩, Or.inr HZ2.out, by rw [Tm.most, if_pos HM2.out]; exact HIN.out, h⟩, fun h => h.names⟩, rfl, HB9.out⟩
          · have hd : decide (0 ≤ t.n ∧ t.n ≤ 10006) = false := decide_eq_false hin
            have HIN := Lib.hid hin
            clear hin
            go_wp2_with fail
            refine (in_any _ _ _ _).mono ?_
            rintro e w' ⟨rfl, rfl⟩
            go_wp2_with fail
            go_ret
            exact ⟨_, lit_f (fun h => HIN.out (by have := h.n; rwa [Tm.most, if_pos HM2.out] at this)), rfl, HBW.out⟩
        have HM2 := Lib.hid m2
        by_cases m3 : t.kind = 3
        · have HM3 := Lib.hid m3
          have ma := Int.le_of_eq m3
          have mb := Int.le_of_eq m3.symm
          clear m3
          by_cases hin : 0 ≤ t.n ∧ t.n ≤ 1
          · have hd : decide (0 ≤ t.n ∧ t.n ≤ 1) = true := decide_eq_true hin
            have HIN := Lib.hid hin
            clear hin
            go_wp2_with fail
            refine (in_any _ _ _ _).mono ?_
            rintro e w' ⟨rfl, rfl⟩
            go_wp2_with fail
            refine (HNM.out _).mono ?_
            rintro e w9 ⟨r, hr, rfl, hb9⟩
            have HR9 := Lib.hid hr
            have HB9 := Lib.hid (HBW.out.trans (hb9.mono HBW.out.size))
            clear hr hb9
            go_wp2_with fail
            go_ret
            exact ⟨_, HR9.out.trans ⟨fun h => ⟨⟨fun e => e.elim (fun e => absurd e HK6.out) (fun e => absurd e HK9.out), fun e => by rw [HVT.out] at e; cases e⟩, Or.inr HZ1.out, ⟨(fun e => absurd e HK9.out), fun e => by rw [HVR0.out] at e; cases e⟩, Or.inr HZ2.out, by rw [Tm.most, if_neg HM2.out, if_pos HM3.out]; exact HIN.out, h⟩, fun h => h.names⟩, rfl, HB9.out⟩
          · have hd : decide (0 ≤ t.n ∧ t.n ≤ 1) = false := decide_eq_false hin
            have HIN := Lib.hid hin
            clear hin
            go_wp2_with fail
            refine (in_any _ _ _ _).mono ?_
            rintro e w' ⟨rfl, rfl⟩
            go_wp2_with fail
            go_ret
            exact ⟨_, lit_f (fun h => HIN.out (by have := h.n; rwa [Tm.most, if_neg HM2.out, if_pos HM3.out] at this)), rfl, HBW.out⟩
        have HM3 := Lib.hid m3
        by_cases hin : 0 ≤ t.n ∧ t.n ≤ 0
        · have hd : decide (0 ≤ t.n ∧ t.n ≤ 0) = true := decide_eq_true hin
          have HIN := Lib.hid hin
          clear hin
          go_wp2_with fail
          refine (in_any _ _ _ _).mono ?_
          rintro e w' ⟨rfl, rfl⟩
          go_wp2_with fail
          refine (HNM.out _).mono ?_
          rintro e w9 ⟨r, hr, rfl, hb9⟩
          have HR9 := Lib.hid hr
          have HB9 := Lib.hid (HBW.out.trans (hb9.mono HBW.out.size))
          clear hr hb9
          go_wp2_with fail
          go_ret
          exact ⟨_, HR9.out.trans ⟨fun h => ⟨⟨fun e => e.elim (fun e => absurd e HK6.out) (fun e => absurd e HK9.out), fun e => by rw [HVT.out] at e; cases e⟩, Or.inr HZ1.out, ⟨(fun e => absurd e HK9.out), fun e => by rw [HVR0.out] at e; cases e⟩, Or.inr HZ2.out, by rw [Tm.most, if_neg HM2.out, if_neg HM3.out]; exact HIN.out, h⟩, fun h => h.names⟩, rfl, HB9.out⟩
        · have hd : decide (0 ≤ t.n ∧ t.n ≤ 0) = false := decide_eq_false hin
          have HIN := Lib.hid hin
          clear hin
          go_wp2_with fail
          refine (in_any _ _ _ _).mono ?_
          rintro e w' ⟨rfl, rfl⟩
          go_wp2_with fail
          go_ret
          exact ⟨_, lit_f (fun h => HIN.out (by have := h.n; rwa [Tm.most, if_neg HM2.out, if_neg HM3.out] at this)), rfl, HBW.out⟩
      · have HZ2 := Lib.hid z2
        have HZC := Lib.hid (fun W => zeroS_no (p := rp) (c := rc) z2 W)
        clear z2
        go_wp2_with fail
        go_region_held3 (fun w' => w'.cell? ⟨w.heap.size, 0, none⟩ = some (.int .i64 t.kind) ∧ w'.cell? ⟨w.heap.size, 6, none⟩ = some (.int .i64 t.res.kind) ∧ w'.cell? ⟨w.heap.size, 7, none⟩ = some (.slice rp t.res.args.length rc) ∧ Below w.heap.size w w')
          (first
            | (go_keep; done)
            | exact ⟨g0, g6, g7, HB2.out.drew⟩
            | exact keepR hb6 (by assumption)
            | exact keepR hb5 (by assumption))
          (first
            | (go_at_call 85; refine HVR.out.mono ?_; rintro e w5 ⟨rfl, hb5⟩)
            | (go_at_call 86; refine (HZC.out _).mono ?_; rintro e w6 ⟨rfl, hb6⟩))
        rename_i hH
        clear hH
        have hbd : Below w2.heap.size w2 _ := ((Below.refl _ _).drew.trans hb5).trans (hb6.mono (by have := hb5.size; exact this))
        have HBW := Lib.hid (HB2.out.trans (hbd.mono HB2.out.size))
        clear g0 g1 g2 g3 g4 g5 g6 g7 g8
        obtain ⟨g0, g1, g2, g3, g4, g5, g6, g7, g8⟩ := HX2.out.keep hbd
        clear hbd hb5 hb6
        go_wp2_with fail
        go_ret
        exact ⟨_, lit_f (fun h => h.res2.elim HK9.out HZ2.out), rfl, HBW.out⟩
    · have HZ1 := Lib.hid z1
      have HZC1 := Lib.hid (fun W => zeroS_no (p := tp) (c := tc) z1 W)
      clear z1
      go_wp2_with fail
      refine (HZC1.out _).mono ?_
      rintro e w2 ⟨rfl, hb2⟩
      have HB2 := Lib.hid (HB1.out.trans (hb2.mono HB1.out.size))
      have HX2 := Lib.hid (HX1.out.keep hb2)
      clear g0 g1 g2 g3 g4 g5 g6 g7 g8
      obtain ⟨g0, g1, g2, g3, g4, g5, g6, g7, g8⟩ := HX1.out.keep hb2
      clear hb2
      go_wp2_with fail
      go_ret
      exact ⟨_, lit_f (fun h => h.ty2.elim (fun e => e.elim HK6.out HK9.out) HZ1.out), rfl, HB2.out⟩
  · obtain ⟨k6, k9⟩ := k
    have HK6 := Lib.hid k6
    have HK9 := Lib.hid k9
    have e6 : (t.kind == 6) = false := by simpa using k6
    have e9 : (t.kind == 9) = false := by simpa using k9
    have n9 : (t.kind != 9) = true := by simpa using k9
    clear k6 k9
    go_wp2_with fail
    refine (HVTC.out _ HB.out).mono ?_
    rintro e w1 ⟨rfl, hb1⟩
    have HB1 := Lib.hid (HB.out.trans (hb1.mono HB.out.size))
    have HX1 := Lib.hid (HX.out.keep hb1)
    obtain ⟨g0, g1, g2, g3, g4, g5, g6, g7, g8⟩ := HX.out.keep hb1
    clear hb1
    by_cases z1 : t.ty.kind = 0 ∧ t.ty.args.length = 0
    · have HZ1 := Lib.hid z1
      have HZC1 := Lib.hid (fun W => zeroS_yes (p := tp) (c := tc) z1 W)
      clear z1
      go_wp2_with fail
      refine (HZC1.out _).mono ?_
      rintro e w2 ⟨rfl, hb2⟩
      have HB2 := Lib.hid (HB1.out.trans (hb2.mono HB1.out.size))
      have HX2 := Lib.hid (HX1.out.keep hb2)
      clear g0 g1 g2 g3 g4 g5 g6 g7 g8
      obtain ⟨g0, g1, g2, g3, g4, g5, g6, g7, g8⟩ := HX1.out.keep hb2
      clear hb2
      have HVR := Lib.hid (HVRC.out w2.drew HB2.out.drew)
      go_wp2_with fail
      refine wp_region_noPanic ?_
      refine wp_region_held_drew (S := (fun w' => w'.cell? ⟨w.heap.size, 0, none⟩ = some (.int .i64 t.kind) ∧ w'.cell? ⟨w.heap.size, 6, none⟩ = some (.int .i64 t.res.kind) ∧ w'.cell? ⟨w.heap.size, 7, none⟩ = some (.slice rp t.res.args.length rc) ∧ Below w.heap.size w w')) (by kernel_rfl) ?_ (fun hHeld => ?_)
      · try dsimp only
        exact ⟨g0, g6, g7, HB2.out.drew⟩
      refine wpAnyH_take (i := 0) (oi := ({ dst := some 28, op := Op.fieldAddr 36 (Operand.tmp 1) 0, type := 0, pos := "l05_term.go:67", after := #[], guard := none } : Oper)) (v := ?_) rfl (by kernel_rfl) (by kernel_rfl) (by kernel_rfl) (fun _ _ _ h => h) (Or.inl ⟨by rfl, ?_⟩) (by assumption) ?_
      rotate_left
      · intro w hSw
        try dsimp only at hSw
        go_simp
        try with_reducible rfl
      try simp only [Act.put, List.setIfInBounds_toArray, List.set_cons_zero, List.set_cons_succ]
      refine wpAnyH_take (i := 1) (oi := ({ dst := some 29, op := Op.load 3 (Operand.tmp 28), type := 3, pos := "l05_term.go:67", after := #[{ on := 0, ground := Ground.data }], guard := none } : Oper)) (v := ?_) rfl (by kernel_rfl) (by kernel_rfl) (by kernel_rfl) (fun _ _ _ h => h) (Or.inl ⟨by rfl, ?_⟩) (by assumption) ?_
      rotate_left
      · intro w hSw
        try dsimp only at hSw
        go_simp
        try with_reducible rfl
      try simp only [Act.put, List.setIfInBounds_toArray, List.set_cons_zero, List.set_cons_succ]
      refine wpAnyH_take (i := 2) (oi := ({ dst := some 30, op := Op.binOp BinOp.eql 3 (Operand.tmp 29) (Operand.const (Value.int IntKind.i64 9)) 3, type := 4, pos := "l05_term.go:67", after := #[{ on := 1, ground := Ground.data }], guard := none } : Oper)) (v := ?_) rfl (by kernel_rfl) (by kernel_rfl) (by kernel_rfl) (fun _ _ _ h => h) (Or.inl ⟨by rfl, ?_⟩) (by assumption) ?_
      rotate_left
      · intro w hSw
        try dsimp only at hSw
        go_simp
        try with_reducible rfl
      try simp only [Act.put, List.setIfInBounds_toArray, List.set_cons_zero, List.set_cons_succ]
      refine wpAnyH_take (i := 3) (oi := ({ dst := some 31, op := Op.fieldAddr 36 (Operand.tmp 1) 5, type := 0, pos := "l05_term.go:67", after := #[], guard := none } : Oper)) (v := ?_) rfl (by kernel_rfl) (by kernel_rfl) (by kernel_rfl) (fun _ _ _ h => h) (Or.inl ⟨by rfl, ?_⟩) (by assumption) ?_
      rotate_left
      · intro w hSw
        try dsimp only at hSw
        go_simp
        try with_reducible rfl
      try simp only [Act.put, List.setIfInBounds_toArray, List.set_cons_zero, List.set_cons_succ]
      refine wpAnyH_take (i := 4) (oi := ({ dst := some 32, op := Op.load 33 (Operand.tmp 31), type := 33, pos := "l05_term.go:67", after := #[{ on := 3, ground := Ground.data }], guard := none } : Oper)) (v := ?_) rfl (by kernel_rfl) (by kernel_rfl) (by kernel_rfl) (fun _ _ _ h => h) (Or.inl ⟨by rfl, ?_⟩) (by assumption) ?_
      rotate_left
      · intro w hSw
        try dsimp only at hSw
        go_simp
        try with_reducible rfl
      try simp only [Act.put, List.setIfInBounds_toArray, List.set_cons_zero, List.set_cons_succ]
      refine wpAnyH_ready (rs := [5]) (by kernel_rfl) (by simp) ?_
      refine AllReadyH.cons (o := ({ dst := some 33, op := Op.call { callee := Callee.value (Operand.func 85), args := #[Operand.tmp 32], argTypes := #[33] }, type := 4, pos := "l05_term.go:67", after := #[{ on := 4, ground := Ground.data }], guard := none } : Oper)) rfl (fun K hK => ?_) AllReadyH.nil
      go_simp
      (go_at_call 85; refine HVR.out.mono ?_; rintro e w5 ⟨rfl, hb5⟩)
      refine hK.out _ _ ?_ (fun hHeld1 => ?_)
      · try dsimp only
        exact keepR hb5 (by assumption)
      clear hK K
      try simp only [Act.put, List.setIfInBounds_toArray, List.set_cons_zero, List.set_cons_succ]
      refine wpAnyH_take (i := 6) (oi := ({ dst := some 34, op := Op.binOp BinOp.neq 4 (Operand.tmp 30) (Operand.tmp 33) 4, type := 4, pos := "l05_term.go:67", after := #[{ on := 2, ground := Ground.data }, { on := 5, ground := Ground.data }], guard := none } : Oper)) (v := ?_) rfl (by kernel_rfl) (by kernel_rfl) (by kernel_rfl) (fun _ _ _ h => h) (Or.inl ⟨by rfl, ?_⟩) (by assumption) ?_
      rotate_left
      · intro w hSw
        try dsimp only at hSw
        go_simp
        try with_reducible rfl
      try simp only [Act.put, List.setIfInBounds_toArray, List.set_cons_zero, List.set_cons_succ]
      refine wpAnyH_take (i := 7) (oi := ({ dst := some 35, op := Op.move (Operand.tmp 34), type := 4, pos := "l05_term.go:67", after := #[{ on := 6, ground := Ground.data }, { on := 5, ground := Ground.chain }], guard := none } : Oper)) (v := ?_) rfl (by kernel_rfl) (by kernel_rfl) (by kernel_rfl) (fun _ _ _ h => h) (Or.inl ⟨by rfl, ?_⟩) (by assumption) ?_
      rotate_left
      · intro w hSw
        try dsimp only at hSw
        go_simp
        try with_reducible rfl
      try simp only [Act.put, List.setIfInBounds_toArray, List.set_cons_zero, List.set_cons_succ]
      refine wpAnyH_take (i := 8) (oi := ({ dst := some 36, op := Op.fieldAddr 36 (Operand.tmp 1) 0, type := 0, pos := "l05_term.go:67", after := #[{ on := 7, ground := Ground.guard }], guard := some (7, false) } : Oper)) (v := undef) rfl (by kernel_rfl) (by kernel_rfl) (by kernel_rfl) (fun _ _ _ h => h) (Or.inr ⟨by rfl, rfl⟩) (by assumption) ?_
      try simp only [Act.put, List.setIfInBounds_toArray, List.set_cons_zero, List.set_cons_succ]
      refine wpAnyH_take (i := 9) (oi := ({ dst := some 37, op := Op.load 3 (Operand.tmp 36), type := 3, pos := "l05_term.go:67", after := #[{ on := 8, ground := Ground.data }, { on := 7, ground := Ground.guard }], guard := some (7, false) } : Oper)) (v := undef) rfl (by kernel_rfl) (by kernel_rfl) (by kernel_rfl) (fun _ _ _ h => h) (Or.inr ⟨by rfl, rfl⟩) (by assumption) ?_
      try simp only [Act.put, List.setIfInBounds_toArray, List.set_cons_zero, List.set_cons_succ]
      refine wpAnyH_take (i := 10) (oi := ({ dst := some 38, op := Op.binOp BinOp.neq 3 (Operand.tmp 37) (Operand.const (Value.int IntKind.i64 9)) 3, type := 4, pos := "l05_term.go:67", after := #[{ on := 9, ground := Ground.data }, { on := 7, ground := Ground.guard }], guard := some (7, false) } : Oper)) (v := undef) rfl (by kernel_rfl) (by kernel_rfl) (by kernel_rfl) (fun _ _ _ h => h) (Or.inr ⟨by rfl, rfl⟩) (by assumption) ?_
      try simp only [Act.put, List.setIfInBounds_toArray, List.set_cons_zero, List.set_cons_succ]
      refine wpAnyH_take (i := 11) (oi := ({ dst := some 39, op := Op.move (Operand.tmp 38), type := 4, pos := "l05_term.go:67", after := #[{ on := 10, ground := Ground.data }, { on := 7, ground := Ground.chain }, { on := 7, ground := Ground.guard }], guard := some (7, false) } : Oper)) (v := undef) rfl (by kernel_rfl) (by kernel_rfl) (by kernel_rfl) (fun _ _ _ h => h) (Or.inr ⟨by rfl, rfl⟩) (by assumption) ?_
      try simp only [Act.put, List.setIfInBounds_toArray, List.set_cons_zero, List.set_cons_succ]
      refine wpAnyH_take (i := 12) (oi := ({ dst := some 40, op := Op.fieldAddr 36 (Operand.tmp 1) 5, type := 0, pos := "l05_term.go:67", after := #[{ on := 11, ground := Ground.guard }], guard := some (11, true) } : Oper)) (v := undef) rfl (by kernel_rfl) (by kernel_rfl) (by kernel_rfl) (fun _ _ _ h => h) (Or.inr ⟨by rfl, rfl⟩) (by assumption) ?_
      try simp only [Act.put, List.setIfInBounds_toArray, List.set_cons_zero, List.set_cons_succ]
      refine wpAnyH_take (i := 13) (oi := ({ dst := some 41, op := Op.load 33 (Operand.tmp 40), type := 33, pos := "l05_term.go:67", after := #[{ on := 12, ground := Ground.data }, { on := 11, ground := Ground.guard }], guard := some (11, true) } : Oper)) (v := undef) rfl (by kernel_rfl) (by kernel_rfl) (by kernel_rfl) (fun _ _ _ h => h) (Or.inr ⟨by rfl, rfl⟩) (by assumption) ?_
      try simp only [Act.put, List.setIfInBounds_toArray, List.set_cons_zero, List.set_cons_succ]
      refine wpAnyH_take (i := 14) (oi := ({ dst := some 42, op := Op.call { callee := Callee.value (Operand.func 86), args := #[Operand.tmp 41], argTypes := #[33] }, type := 4, pos := "l05_term.go:67", after := #[{ on := 13, ground := Ground.data }, { on := 11, ground := Ground.chain }, { on := 11, ground := Ground.guard }], guard := some (11, true) } : Oper)) (v := undef) rfl (by kernel_rfl) (by kernel_rfl) (by kernel_rfl) (fun _ _ _ h => h) (Or.inr ⟨by rfl, rfl⟩) (by assumption) ?_
      try simp only [Act.put, List.setIfInBounds_toArray, List.set_cons_zero, List.set_cons_succ]
      refine wpAnyH_take (i := 15) (oi := ({ dst := some 43, op := Op.unOp UnOp.not 4 (Operand.tmp 42), type := 4, pos := "l05_term.go:67", after := #[{ on := 14, ground := Ground.data }, { on := 11, ground := Ground.guard }], guard := some (11, true) } : Oper)) (v := undef) rfl (by kernel_rfl) (by kernel_rfl) (by kernel_rfl) (fun _ _ _ h => h) (Or.inr ⟨by rfl, rfl⟩) (by assumption) ?_
      try simp only [Act.put, List.setIfInBounds_toArray, List.set_cons_zero, List.set_cons_succ]
      refine wpAnyH_take (i := 16) (oi := ({ dst := some 44, op := Op.pick (Operand.tmp 39) (Operand.tmp 43) (Operand.const (Value.bool false)), type := 4, pos := "l05_term.go:67", after := #[{ on := 11, ground := Ground.data }, { on := 15, ground := Ground.data }, { on := 7, ground := Ground.guard }], guard := some (7, false) } : Oper)) (v := undef) rfl (by kernel_rfl) (by kernel_rfl) (by kernel_rfl) (fun _ _ _ h => h) (Or.inr ⟨by rfl, rfl⟩) (by assumption) ?_
      try simp only [Act.put, List.setIfInBounds_toArray, List.set_cons_zero, List.set_cons_succ]
      refine wpAnyH_take (i := 17) (oi := ({ dst := some 45, op := Op.pick (Operand.tmp 35) (Operand.const (Value.bool true)) (Operand.tmp 44), type := 4, pos := "l05_term.go:67", after := #[{ on := 7, ground := Ground.data }, { on := 16, ground := Ground.data }], guard := none } : Oper)) (v := ?_) rfl (by kernel_rfl) (by kernel_rfl) (by kernel_rfl) (fun _ _ _ h => h) (Or.inl ⟨by rfl, ?_⟩) (by assumption) ?_
      rotate_left
      · intro w hSw
        try dsimp only at hSw
        go_simp
        try with_reducible rfl
      try simp only [Act.put, List.setIfInBounds_toArray, List.set_cons_zero, List.set_cons_succ]
      refine wpAnyH_done (by kernel_rfl) ?_ _
      refine NoPanic.normal ?_
      clear hHeld hHeld1
      have HBW := Lib.hid (HB2.out.trans (((Below.refl _ _).drew.trans hb5).mono HB2.out.size))
      clear hb5
      go_wp2_with fail
      go_ret
      exact ⟨_, lit_f (fun h => by have := h.res1.2 HVR0.out; exact HK9.out this), rfl, HBW.out⟩
    · have HZ1 := Lib.hid z1
      have HZC1 := Lib.hid (fun W => zeroS_no (p := tp) (c := tc) z1 W)
      clear z1
      go_wp2_with fail
      refine (HZC1.out _).mono ?_
      rintro e w2 ⟨rfl, hb2⟩
      have HB2 := Lib.hid (HB1.out.trans (hb2.mono HB1.out.size))
      have HX2 := Lib.hid (HX1.out.keep hb2)
      clear g0 g1 g2 g3 g4 g5 g6 g7 g8
      obtain ⟨g0, g1, g2, g3, g4, g5, g6, g7, g8⟩ := HX1.out.keep hb2
      clear hb2
      go_wp2_with fail
      go_ret
      exact ⟨_, lit_f (fun h => h.ty2.elim (fun e => e.elim HK6.out HK9.out) HZ1.out), rfl, HB2.out⟩
  · obtain ⟨k6, k9⟩ := k
    have HK6 := Lib.hid k6
    have HK9 := Lib.hid k9
    have e6 : (t.kind == 6) = false := by simpa using k6
    have e9 : (t.kind == 9) = false := by simpa using k9
    have n9 : (t.kind != 9) = true := by simpa using k9
    clear k6 k9
    go_wp2_with fail
    refine (HVTC.out _ HB.out).mono ?_
    rintro e w1 ⟨rfl, hb1⟩
    have HB1 := Lib.hid (HB.out.trans (hb1.mono HB.out.size))
    have HX1 := Lib.hid (HX.out.keep hb1)
    obtain ⟨g0, g1, g2, g3, g4, g5, g6, g7, g8⟩ := HX.out.keep hb1
    clear hb1
    go_wp2_with fail
    go_ret
    exact ⟨_, lit_f (fun h => (h.ty1.2 HVT.out).elim HK6.out HK9.out), rfl, HB1.out⟩
  · obtain ⟨k6, k9⟩ := k
    have HK6 := Lib.hid k6
    have HK9 := Lib.hid k9
    have e6 : (t.kind == 6) = false := by simpa using k6
    have e9 : (t.kind == 9) = false := by simpa using k9
    have n9 : (t.kind != 9) = true := by simpa using k9
    clear k6 k9
    go_wp2_with fail
    refine (HVTC.out _ HB.out).mono ?_
    rintro e w1 ⟨rfl, hb1⟩
    have HB1 := Lib.hid (HB.out.trans (hb1.mono HB.out.size))
    have HX1 := Lib.hid (HX.out.keep hb1)
    obtain ⟨g0, g1, g2, g3, g4, g5, g6, g7, g8⟩ := HX.out.keep hb1
    clear hb1
    go_wp2_with fail
    go_ret
    exact ⟨_, lit_f (fun h => (h.ty1.2 HVT.out).elim HK6.out HK9.out), rfl, HB1.out⟩
end Go.Proofs.YtdfnjfelmfccjaaDoor
/- TmFields: The contract of the model's l5Fields: the fields of a node are those of its kind. -/
namespace Go.Proofs.YtdfnjfelmfccjaaDoor
open Go Go.RowKit

theorem fieldsS_any {C : Nat → Prop} (t : Tm) (tp : Option Addr) (tc : Nat) (rp : Option Addr) (rc : Nat) (p : Option Addr) (c : Nat) (w : World) (hT : TM' w C t tp tc rp rc p c) (hn : t.wt ≤ 2097152) :
    Calls Tryd.prog 66 #[tmV t tp tc rp rc p c] w (Tells t.FieldsOk w) := by
  rcases (show t.kind = 6 ∨ t.kind = 9 ∨ (¬ t.kind = 6 ∧ ¬ t.kind = 9) by omega) with k | k | k
  · exact fieldsSSix t tp tc rp rc p c w hT hn k
  · exact fieldsSNine t tp tc rp rc p c w hT hn k
  · exact fieldsSOth t tp tc rp rc p c w hT hn k
end Go.Proofs.YtdfnjfelmfccjaaDoor
/- KA: The table of the program that holds the number of parts by kind. -/
namespace Go.Proofs.YtdfnjfelmfccjaaDoor
open Go Go.RowKit

theorem gKA : Tryd.prog.globalNamed "loop.example/g00589/impl.kindArity" = some 0 := by kernel_rfl
def kaTab : List Int := [0, 0, 0, 0, 0, 3, 1, 2, 2, 1, 1, 1, 1, 1]
/-- The table reads as the program's text lays it. -/
def KA (w : World) : Prop := Lib.TabIs Tryd.prog w "loop.example/g00589/impl.kindArity" .i64 kaTab ∧ 0 < w.heap.size
theorem KA.below {w w' : World} (h : KA w) (hb : Below w.heap.size w w') : KA w' := ⟨var?_below hb gKA h.2 h.1, Nat.lt_of_lt_of_le h.2 hb.size⟩
theorem KA.cell {w : World} (h : KA w) (i : Nat) : w.cell? ⟨0, i, none⟩ = ((kaTab.map fun z => Value.int .i64 z).toArray)[i]? := World.var?_cell gKA h.1 i

/-- The node is of one of the forms, whatever its parts are. -/
def Tm.NodeOk (t : Tm) : Prop := t.FieldsOk ∧ (t.args.length : Int) = t.arity
theorem ok_ex : ∃ ok : Tm → Bool, ∀ x, ok x = true ↔ x.NodeOk := ⟨fun x => @decide x.NodeOk (Classical.propDecidable _), fun _ => @decide_eq_true_iff _ (Classical.propDecidable _)⟩
end Go.Proofs.YtdfnjfelmfccjaaDoor
/- OpArI: The contract of the program's OpArity. -/
namespace Go.Proofs.YtdfnjfelmfccjaaDoor
open Go Go.RowKit

set_option maxRecDepth 100000 in
set_option maxHeartbeats 1000000 in
theorem opArI_any (s : ByteArray) (w : World) : Calls Tryd.prog 89 #[.string s] w fun e w' => e = .returned (.int .i64 (opAr s.toList)) ∧ w' = w := by
  go_enter Tryd.func89, Tryd.ntmps89
  go_wp2
  all_goals
    go_ret
    exact ⟨by unfold opAr; simp_all, rfl⟩
end Go.Proofs.YtdfnjfelmfccjaaDoor
/- FormA: The contracts of the program's isZeroType, hasArity and isForm. -/
namespace Go.Proofs.YtdfnjfelmfccjaaDoor
open Go Go.RowKit

set_option maxRecDepth 100000 in
set_option maxHeartbeats 1000000 in
theorem zeroI_any (k : Int) (p : Option Addr) (n c : Nat) (w : World) : Calls Tryd.prog 75 #[.agg #[.int .i64 k, .slice p n c]] w (Tells (k = 0 ∧ n = 0) w) := by
  have HB := Lib.hid (al_below w (.cells #[.int .i64 k, .slice p n c] 33))
  go_enter Tryd.func75, Tryd.ntmps75
  by_cases hk : k = 0
  · subst hk
    go_wp2_with fail
    go_ret
    exact ⟨_, by simp, rfl, HB.out⟩
  · have hk1 : (k == 0) = false := by simpa using hk
    go_wp2_with fail
    go_ret
    exact ⟨_, by simp [hk], rfl, HB.out⟩

theorem arK_out (x : Int) {k : Int} (h : k < 1 ∨ 13 < k) : arK k x = -1 := by
  unfold arK
  rw [if_neg (by omega), if_neg (by omega), if_neg (by omega), if_neg (by omega), if_neg (by omega), if_neg (by omega), if_neg (by omega), if_neg (by omega), if_neg (by omega), if_neg (by omega), if_neg (by omega), if_neg (by omega), if_neg (by omega)]
/-- As many parts as the form asks for; an operation has some. -/
def Tm.arOk (t : Tm) : Prop := (t.args.length : Int) = t.arity ∧ (t.kind = 4 → 0 < t.args.length)

set_option maxRecDepth 100000 in
set_option maxHeartbeats 4000000 in
theorem hasAr_any (t : Tm) (tp : Option Addr) (tc : Nat) (rp : Option Addr) (rc : Nat) (p : Option Addr) (c : Nat) (w : World) (hka : KA w) (hn : t.wt ≤ 2097152) :
    Calls Tryd.prog 71 #[tmV t tp tc rp rc p c] w (Tells t.arOk w) := by
  have HB := Lib.hid (fun o => al_below w o)
  have HK := Lib.hid (fun o i => (hka.below (al_below w o)).cell i)
  have hl : t.args.length ≤ 2097152 := by have h1 := t.wt_eq; have h2 := wtS_ge t.args; omega
  clear hka hn
  unfold tmV
  by_cases hr : t.kind < 1 ∨ 13 < t.kind
  · have HN := Lib.hid (show ¬ t.arOk from fun e => by
      have h1 := e.1
      rw [Tm.arity, arK_out _ hr] at h1
      omega)
    rcases hr with hr | hr
    all_goals
      go_enter Tryd.func71, Tryd.ntmps71
      go_wp2_with fail
      go_ret
      exact ⟨_, lit_f HN.out, rfl, HB.out _⟩
  by_cases h4 : t.kind = 4
  · have HO := Lib.hid (opArI_any t.name)
    by_cases hz : 0 < t.args.length
    · have HA := Lib.hid (show (((t.args.length : Int) == opAr t.name.toList) = true ↔ t.arOk) by simp [Tm.arOk, Tm.arity, arK, h4, hz])
      have hd1 : decide (0 < t.args.length) = true := decide_eq_true hz
      rw [h4]
      clear hz hr h4
      go_enter Tryd.func71, Tryd.ntmps71
      go_wp2_with fail
      go_region_held3 (fun w' => w'.cell? ⟨w.heap.size, 1, none⟩ = some (.string t.name) ∧ w'.cell? ⟨w.heap.size, 8, none⟩ = some (.slice p t.args.length c) ∧ Below w.heap.size w w')
        (first
          | (go_keep; done)
          | exact ⟨cell_of_blk (blk_new w _) 1, cell_of_blk (blk_new w _) 8, (HB.out _).drew⟩
          | assumption)
        (first
          | (go_at_call 89; refine (HO.out _).mono ?_; rintro e w5 ⟨rfl, rfl⟩))
      rename_i hH
      have HBL := Lib.hid hH.2.2
      clear hH
      go_wp2_with fail
      go_ret
      exact ⟨_, HA.out, rfl, HBL.out⟩
    · have HA := Lib.hid (show ¬ t.arOk from fun e => hz (e.2 h4))
      rw [h4, show t.args.length = 0 by omega]
      clear hz hr h4 hl HO
      go_enter Tryd.func71, Tryd.ntmps71
      go_wp2_with fail
      refine wp_region_noPanic ?_
      refine wp_region_held_drew (S := (fun w' => w'.cell? ⟨w.heap.size, 1, none⟩ = some (.string t.name) ∧ w'.cell? ⟨w.heap.size, 8, none⟩ = some (.slice p 0 c) ∧ Below w.heap.size w w')) (by kernel_rfl) ?_ (fun hHeld => ?_)
      · try dsimp only
        exact ⟨cell_of_blk (blk_new w _) 1, cell_of_blk (blk_new w _) 8, (HB.out _).drew⟩
      refine wpAnyH_take (i := 0) (oi := ({ dst := some 16, op := Op.fieldAddr 36 (Operand.tmp 1) 6, type := 0, pos := "l05_term.go:117", after := #[], guard := none } : Oper)) (v := ?_) rfl (by kernel_rfl) (by kernel_rfl) (by kernel_rfl) (fun _ _ _ h => h) (Or.inl ⟨by rfl, ?_⟩) (by assumption) ?_
      rotate_left
      · intro w hSw
        try dsimp only at hSw
        go_simp
        try with_reducible rfl
      try simp only [Act.put, List.setIfInBounds_toArray, List.set_cons_zero, List.set_cons_succ]
      refine wpAnyH_take (i := 1) (oi := ({ dst := some 17, op := Op.load 34 (Operand.tmp 16), type := 34, pos := "l05_term.go:117", after := #[{ on := 0, ground := Ground.data }], guard := none } : Oper)) (v := ?_) rfl (by kernel_rfl) (by kernel_rfl) (by kernel_rfl) (fun _ _ _ h => h) (Or.inl ⟨by rfl, ?_⟩) (by assumption) ?_
      rotate_left
      · intro w hSw
        try dsimp only at hSw
        go_simp
        try with_reducible rfl
      try simp only [Act.put, List.setIfInBounds_toArray, List.set_cons_zero, List.set_cons_succ]
      refine wpAnyH_take (i := 2) (oi := ({ dst := some 18, op := Op.call { callee := Callee.builtin Builtin.len, args := #[Operand.tmp 17], argTypes := #[34] }, type := 3, pos := "l05_term.go:117", after := #[{ on := 1, ground := Ground.data }], guard := none } : Oper)) (v := ?_) rfl (by kernel_rfl) (by kernel_rfl) (by kernel_rfl) (fun _ _ _ h => h) (Or.inl ⟨by rfl, ?_⟩) (by assumption) ?_
      rotate_left
      · intro w hSw
        try dsimp only at hSw
        go_simp
        try with_reducible rfl
      try simp only [Act.put, List.setIfInBounds_toArray, List.set_cons_zero, List.set_cons_succ]
      refine wpAnyH_take (i := 3) (oi := ({ dst := some 19, op := Op.binOp BinOp.gtr 3 (Operand.tmp 18) (Operand.const (Value.int IntKind.i64 0)) 3, type := 4, pos := "l05_term.go:117", after := #[{ on := 2, ground := Ground.data }], guard := none } : Oper)) (v := ?_) rfl (by kernel_rfl) (by kernel_rfl) (by kernel_rfl) (fun _ _ _ h => h) (Or.inl ⟨by rfl, ?_⟩) (by assumption) ?_
      rotate_left
      · intro w hSw
        try dsimp only at hSw
        go_simp
        try with_reducible rfl
      try simp only [Act.put, List.setIfInBounds_toArray, List.set_cons_zero, List.set_cons_succ]
      refine wpAnyH_take (i := 4) (oi := ({ dst := some 20, op := Op.move (Operand.tmp 19), type := 4, pos := "l05_term.go:117", after := #[{ on := 3, ground := Ground.data }], guard := none } : Oper)) (v := ?_) rfl (by kernel_rfl) (by kernel_rfl) (by kernel_rfl) (fun _ _ _ h => h) (Or.inl ⟨by rfl, ?_⟩) (by assumption) ?_
      rotate_left
      · intro w hSw
        try dsimp only at hSw
        go_simp
        try with_reducible rfl
      try simp only [Act.put, List.setIfInBounds_toArray, List.set_cons_zero, List.set_cons_succ]
      refine wpAnyH_take (i := 5) (oi := ({ dst := some 21, op := Op.fieldAddr 36 (Operand.tmp 1) 6, type := 0, pos := "l05_term.go:117", after := #[{ on := 4, ground := Ground.guard }], guard := some (4, true) } : Oper)) (v := undef) rfl (by kernel_rfl) (by kernel_rfl) (by kernel_rfl) (fun _ _ _ h => h) (Or.inr ⟨by rfl, rfl⟩) (by assumption) ?_
      try simp only [Act.put, List.setIfInBounds_toArray, List.set_cons_zero, List.set_cons_succ]
      refine wpAnyH_take (i := 6) (oi := ({ dst := some 22, op := Op.load 34 (Operand.tmp 21), type := 34, pos := "l05_term.go:117", after := #[{ on := 5, ground := Ground.data }, { on := 4, ground := Ground.guard }], guard := some (4, true) } : Oper)) (v := undef) rfl (by kernel_rfl) (by kernel_rfl) (by kernel_rfl) (fun _ _ _ h => h) (Or.inr ⟨by rfl, rfl⟩) (by assumption) ?_
      try simp only [Act.put, List.setIfInBounds_toArray, List.set_cons_zero, List.set_cons_succ]
      refine wpAnyH_take (i := 7) (oi := ({ dst := some 23, op := Op.call { callee := Callee.builtin Builtin.len, args := #[Operand.tmp 22], argTypes := #[34] }, type := 3, pos := "l05_term.go:117", after := #[{ on := 6, ground := Ground.data }, { on := 4, ground := Ground.guard }], guard := some (4, true) } : Oper)) (v := undef) rfl (by kernel_rfl) (by kernel_rfl) (by kernel_rfl) (fun _ _ _ h => h) (Or.inr ⟨by rfl, rfl⟩) (by assumption) ?_
      try simp only [Act.put, List.setIfInBounds_toArray, List.set_cons_zero, List.set_cons_succ]
      refine wpAnyH_take (i := 8) (oi := ({ dst := some 24, op := Op.fieldAddr 36 (Operand.tmp 1) 1, type := 0, pos := "l05_term.go:117", after := #[{ on := 4, ground := Ground.guard }], guard := some (4, true) } : Oper)) (v := undef) rfl (by kernel_rfl) (by kernel_rfl) (by kernel_rfl) (fun _ _ _ h => h) (Or.inr ⟨by rfl, rfl⟩) (by assumption) ?_
      try simp only [Act.put, List.setIfInBounds_toArray, List.set_cons_zero, List.set_cons_succ]
      refine wpAnyH_take (i := 9) (oi := ({ dst := some 25, op := Op.load 9 (Operand.tmp 24), type := 9, pos := "l05_term.go:117", after := #[{ on := 8, ground := Ground.data }, { on := 4, ground := Ground.guard }], guard := some (4, true) } : Oper)) (v := undef) rfl (by kernel_rfl) (by kernel_rfl) (by kernel_rfl) (fun _ _ _ h => h) (Or.inr ⟨by rfl, rfl⟩) (by assumption) ?_
      try simp only [Act.put, List.setIfInBounds_toArray, List.set_cons_zero, List.set_cons_succ]
      refine wpAnyH_take (i := 10) (oi := ({ dst := some 26, op := Op.call { callee := Callee.value (Operand.func 89), args := #[Operand.tmp 25], argTypes := #[9] }, type := 3, pos := "l05_term.go:117", after := #[{ on := 9, ground := Ground.data }, { on := 4, ground := Ground.chain }, { on := 4, ground := Ground.guard }], guard := some (4, true) } : Oper)) (v := undef) rfl (by kernel_rfl) (by kernel_rfl) (by kernel_rfl) (fun _ _ _ h => h) (Or.inr ⟨by rfl, rfl⟩) (by assumption) ?_
      try simp only [Act.put, List.setIfInBounds_toArray, List.set_cons_zero, List.set_cons_succ]
      refine wpAnyH_take (i := 11) (oi := ({ dst := some 27, op := Op.binOp BinOp.eql 3 (Operand.tmp 23) (Operand.tmp 26) 3, type := 4, pos := "l05_term.go:117", after := #[{ on := 7, ground := Ground.data }, { on := 10, ground := Ground.data }, { on := 4, ground := Ground.guard }], guard := some (4, true) } : Oper)) (v := undef) rfl (by kernel_rfl) (by kernel_rfl) (by kernel_rfl) (fun _ _ _ h => h) (Or.inr ⟨by rfl, rfl⟩) (by assumption) ?_
      try simp only [Act.put, List.setIfInBounds_toArray, List.set_cons_zero, List.set_cons_succ]
      refine wpAnyH_take (i := 12) (oi := ({ dst := some 28, op := Op.pick (Operand.tmp 20) (Operand.tmp 27) (Operand.const (Value.bool false)), type := 4, pos := "l05_term.go:117", after := #[{ on := 4, ground := Ground.data }, { on := 11, ground := Ground.data }], guard := none } : Oper)) (v := ?_) rfl (by kernel_rfl) (by kernel_rfl) (by kernel_rfl) (fun _ _ _ h => h) (Or.inl ⟨by rfl, ?_⟩) (by assumption) ?_
      rotate_left
      · intro w hSw
        try dsimp only at hSw
        go_simp
        try with_reducible rfl
      try simp only [Act.put, List.setIfInBounds_toArray, List.set_cons_zero, List.set_cons_succ]
      refine wpAnyH_take (i := 13) (oi := ({ dst := some 2, op := Op.assign (Operand.tmp 28), type := 4, pos := "l05_term.go:117", after := #[{ on := 12, ground := Ground.data }, { on := 10, ground := Ground.chain }, { on := 0, ground := Ground.phase }, { on := 1, ground := Ground.phase }, { on := 2, ground := Ground.phase }, { on := 3, ground := Ground.phase }, { on := 4, ground := Ground.phase }, { on := 5, ground := Ground.phase }, { on := 6, ground := Ground.phase }, { on := 7, ground := Ground.phase }, { on := 8, ground := Ground.phase }, { on := 9, ground := Ground.phase }, { on := 10, ground := Ground.phase }, { on := 11, ground := Ground.phase }, { on := 12, ground := Ground.phase }], guard := none } : Oper)) (v := ?_) rfl (by kernel_rfl) (by kernel_rfl) (by kernel_rfl) (fun _ _ _ h => h) (Or.inl ⟨by rfl, ?_⟩) (by assumption) ?_
      rotate_left
      · intro w hSw
        try dsimp only at hSw
        go_simp
        try with_reducible rfl
      try simp only [Act.put, List.setIfInBounds_toArray, List.set_cons_zero, List.set_cons_succ]
      refine wpAnyH_done (by kernel_rfl) ?_ _
      refine NoPanic.normal ?_
      clear hHeld
      go_wp2_with fail
      go_ret
      exact ⟨_, lit_f HA.out, rfl, (HB.out _).drew⟩
  rcases (show t.kind = 1 ∨ t.kind = 2 ∨ t.kind = 3 ∨ t.kind = 5 ∨ t.kind = 6 ∨ t.kind = 7 ∨ t.kind = 8 ∨ t.kind = 9 ∨ t.kind = 10 ∨ t.kind = 11 ∨ t.kind = 12 ∨ t.kind = 13 by omega) with hk | hk | hk | hk | hk | hk | hk | hk | hk | hk | hk | hk
  · have HA := Lib.hid (show (((t.args.length : Int) == 0) = true ↔ t.arOk) by simp [Tm.arOk, Tm.arity, arK, hk])
    have hc : (w.alloc (.cells #[.int .i64 1, .string t.name, .string t.other, .int .i64 t.n, .int .i64 t.ty.kind, .slice tp t.ty.args.length tc, .int .i64 t.res.kind, .slice rp t.res.args.length rc, .slice p t.args.length c] 36)).cell? ⟨0, 1, none⟩ = some (.int .i64 0) := by rw [HK.out _ 1]; rfl
    rw [hk]
    clear h4 hr hk hl
    go_enter Tryd.func71, Tryd.ntmps71
    go_wp2_with fail
    go_region_held3 (fun w' => w'.cell? ⟨w.heap.size, 0, none⟩ = some (.int .i64 1) ∧ w'.cell? ⟨w.heap.size, 8, none⟩ = some (.slice p t.args.length c) ∧ w'.cell? ⟨0, 1, none⟩ = some (.int .i64 0) ∧ Below w.heap.size w w')
      (first
        | (go_keep; done)
        | exact ⟨cell_of_blk (blk_new w _) 0, cell_of_blk (blk_new w _) 8, hc, (HB.out _).drew⟩)
      (first
        | fail)
    rename_i hH
    have HBL := Lib.hid hH.2.2.2
    clear hH hc
    go_wp2_with fail
    go_ret
    exact ⟨_, HA.out, rfl, HBL.out⟩
  · have HA := Lib.hid (show (((t.args.length : Int) == 0) = true ↔ t.arOk) by simp [Tm.arOk, Tm.arity, arK, hk])
    have hc : (w.alloc (.cells #[.int .i64 2, .string t.name, .string t.other, .int .i64 t.n, .int .i64 t.ty.kind, .slice tp t.ty.args.length tc, .int .i64 t.res.kind, .slice rp t.res.args.length rc, .slice p t.args.length c] 36)).cell? ⟨0, 2, none⟩ = some (.int .i64 0) := by rw [HK.out _ 2]; rfl
    rw [hk]
    clear h4 hr hk hl
    go_enter Tryd.func71, Tryd.ntmps71
    go_wp2_with fail
    go_region_held3 (fun w' => w'.cell? ⟨w.heap.size, 0, none⟩ = some (.int .i64 2) ∧ w'.cell? ⟨w.heap.size, 8, none⟩ = some (.slice p t.args.length c) ∧ w'.cell? ⟨0, 2, none⟩ = some (.int .i64 0) ∧ Below w.heap.size w w')
      (first
        | (go_keep; done)
        | exact ⟨cell_of_blk (blk_new w _) 0, cell_of_blk (blk_new w _) 8, hc, (HB.out _).drew⟩)
      (first
        | fail)
    rename_i hH
    have HBL := Lib.hid hH.2.2.2
    clear hH hc
    go_wp2_with fail
    go_ret
    exact ⟨_, HA.out, rfl, HBL.out⟩
  · have HA := Lib.hid (show (((t.args.length : Int) == 0) = true ↔ t.arOk) by simp [Tm.arOk, Tm.arity, arK, hk])
    have hc : (w.alloc (.cells #[.int .i64 3, .string t.name, .string t.other, .int .i64 t.n, .int .i64 t.ty.kind, .slice tp t.ty.args.length tc, .int .i64 t.res.kind, .slice rp t.res.args.length rc, .slice p t.args.length c] 36)).cell? ⟨0, 3, none⟩ = some (.int .i64 0) := by rw [HK.out _ 3]; rfl
    rw [hk]
    clear h4 hr hk hl
    go_enter Tryd.func71, Tryd.ntmps71
    go_wp2_with fail
    go_region_held3 (fun w' => w'.cell? ⟨w.heap.size, 0, none⟩ = some (.int .i64 3) ∧ w'.cell? ⟨w.heap.size, 8, none⟩ = some (.slice p t.args.length c) ∧ w'.cell? ⟨0, 3, none⟩ = some (.int .i64 0) ∧ Below w.heap.size w w')
      (first
        | (go_keep; done)
        | exact ⟨cell_of_blk (blk_new w _) 0, cell_of_blk (blk_new w _) 8, hc, (HB.out _).drew⟩)
      (first
        | fail)
    rename_i hH
    have HBL := Lib.hid hH.2.2.2
    clear hH hc
    go_wp2_with fail
    go_ret
    exact ⟨_, HA.out, rfl, HBL.out⟩
  · have HA := Lib.hid (show (((t.args.length : Int) == 3) = true ↔ t.arOk) by simp [Tm.arOk, Tm.arity, arK, hk])
    have hc : (w.alloc (.cells #[.int .i64 5, .string t.name, .string t.other, .int .i64 t.n, .int .i64 t.ty.kind, .slice tp t.ty.args.length tc, .int .i64 t.res.kind, .slice rp t.res.args.length rc, .slice p t.args.length c] 36)).cell? ⟨0, 5, none⟩ = some (.int .i64 3) := by rw [HK.out _ 5]; rfl
    rw [hk]
    clear h4 hr hk hl
    go_enter Tryd.func71, Tryd.ntmps71
    go_wp2_with fail
    go_region_held3 (fun w' => w'.cell? ⟨w.heap.size, 0, none⟩ = some (.int .i64 5) ∧ w'.cell? ⟨w.heap.size, 8, none⟩ = some (.slice p t.args.length c) ∧ w'.cell? ⟨0, 5, none⟩ = some (.int .i64 3) ∧ Below w.heap.size w w')
      (first
        | (go_keep; done)
        | exact ⟨cell_of_blk (blk_new w _) 0, cell_of_blk (blk_new w _) 8, hc, (HB.out _).drew⟩)
      (first
        | fail)
    rename_i hH
    have HBL := Lib.hid hH.2.2.2
    clear hH hc
    go_wp2_with fail
    go_ret
    exact ⟨_, HA.out, rfl, HBL.out⟩
  · have HA := Lib.hid (show (((t.args.length : Int) == 1) = true ↔ t.arOk) by simp [Tm.arOk, Tm.arity, arK, hk])
    have hc : (w.alloc (.cells #[.int .i64 6, .string t.name, .string t.other, .int .i64 t.n, .int .i64 t.ty.kind, .slice tp t.ty.args.length tc, .int .i64 t.res.kind, .slice rp t.res.args.length rc, .slice p t.args.length c] 36)).cell? ⟨0, 6, none⟩ = some (.int .i64 1) := by rw [HK.out _ 6]; rfl
    rw [hk]
    clear h4 hr hk hl
    go_enter Tryd.func71, Tryd.ntmps71
    go_wp2_with fail
    go_region_held3 (fun w' => w'.cell? ⟨w.heap.size, 0, none⟩ = some (.int .i64 6) ∧ w'.cell? ⟨w.heap.size, 8, none⟩ = some (.slice p t.args.length c) ∧ w'.cell? ⟨0, 6, none⟩ = some (.int .i64 1) ∧ Below w.heap.size w w')
      (first
        | (go_keep; done)
        | exact ⟨cell_of_blk (blk_new w _) 0, cell_of_blk (blk_new w _) 8, hc, (HB.out _).drew⟩)
      (first
        | fail)
    rename_i hH
    have HBL := Lib.hid hH.2.2.2
    clear hH hc
    go_wp2_with fail
    go_ret
    exact ⟨_, HA.out, rfl, HBL.out⟩
  · have HA := Lib.hid (show (((t.args.length : Int) == 2) = true ↔ t.arOk) by simp [Tm.arOk, Tm.arity, arK, hk])
    have hc : (w.alloc (.cells #[.int .i64 7, .string t.name, .string t.other, .int .i64 t.n, .int .i64 t.ty.kind, .slice tp t.ty.args.length tc, .int .i64 t.res.kind, .slice rp t.res.args.length rc, .slice p t.args.length c] 36)).cell? ⟨0, 7, none⟩ = some (.int .i64 2) := by rw [HK.out _ 7]; rfl
    rw [hk]
    clear h4 hr hk hl
    go_enter Tryd.func71, Tryd.ntmps71
    go_wp2_with fail
    go_region_held3 (fun w' => w'.cell? ⟨w.heap.size, 0, none⟩ = some (.int .i64 7) ∧ w'.cell? ⟨w.heap.size, 8, none⟩ = some (.slice p t.args.length c) ∧ w'.cell? ⟨0, 7, none⟩ = some (.int .i64 2) ∧ Below w.heap.size w w')
      (first
        | (go_keep; done)
        | exact ⟨cell_of_blk (blk_new w _) 0, cell_of_blk (blk_new w _) 8, hc, (HB.out _).drew⟩)
      (first
        | fail)
    rename_i hH
    have HBL := Lib.hid hH.2.2.2
    clear hH hc
    go_wp2_with fail
    go_ret
    exact ⟨_, HA.out, rfl, HBL.out⟩
  · have HA := Lib.hid (show (((t.args.length : Int) == 2) = true ↔ t.arOk) by simp [Tm.arOk, Tm.arity, arK, hk])
    have hc : (w.alloc (.cells #[.int .i64 8, .string t.name, .string t.other, .int .i64 t.n, .int .i64 t.ty.kind, .slice tp t.ty.args.length tc, .int .i64 t.res.kind, .slice rp t.res.args.length rc, .slice p t.args.length c] 36)).cell? ⟨0, 8, none⟩ = some (.int .i64 2) := by rw [HK.out _ 8]; rfl
    rw [hk]
    clear h4 hr hk hl
    go_enter Tryd.func71, Tryd.ntmps71
    go_wp2_with fail
    go_region_held3 (fun w' => w'.cell? ⟨w.heap.size, 0, none⟩ = some (.int .i64 8) ∧ w'.cell? ⟨w.heap.size, 8, none⟩ = some (.slice p t.args.length c) ∧ w'.cell? ⟨0, 8, none⟩ = some (.int .i64 2) ∧ Below w.heap.size w w')
      (first
        | (go_keep; done)
        | exact ⟨cell_of_blk (blk_new w _) 0, cell_of_blk (blk_new w _) 8, hc, (HB.out _).drew⟩)
      (first
        | fail)
    rename_i hH
    have HBL := Lib.hid hH.2.2.2
    clear hH hc
    go_wp2_with fail
    go_ret
    exact ⟨_, HA.out, rfl, HBL.out⟩
  · have HA := Lib.hid (show (((t.args.length : Int) == 1) = true ↔ t.arOk) by simp [Tm.arOk, Tm.arity, arK, hk])
    have hc : (w.alloc (.cells #[.int .i64 9, .string t.name, .string t.other, .int .i64 t.n, .int .i64 t.ty.kind, .slice tp t.ty.args.length tc, .int .i64 t.res.kind, .slice rp t.res.args.length rc, .slice p t.args.length c] 36)).cell? ⟨0, 9, none⟩ = some (.int .i64 1) := by rw [HK.out _ 9]; rfl
    rw [hk]
    clear h4 hr hk hl
    go_enter Tryd.func71, Tryd.ntmps71
    go_wp2_with fail
    go_region_held3 (fun w' => w'.cell? ⟨w.heap.size, 0, none⟩ = some (.int .i64 9) ∧ w'.cell? ⟨w.heap.size, 8, none⟩ = some (.slice p t.args.length c) ∧ w'.cell? ⟨0, 9, none⟩ = some (.int .i64 1) ∧ Below w.heap.size w w')
      (first
        | (go_keep; done)
        | exact ⟨cell_of_blk (blk_new w _) 0, cell_of_blk (blk_new w _) 8, hc, (HB.out _).drew⟩)
      (first
        | fail)
    rename_i hH
    have HBL := Lib.hid hH.2.2.2
    clear hH hc
    go_wp2_with fail
    go_ret
    exact ⟨_, HA.out, rfl, HBL.out⟩
  · have HA := Lib.hid (show (((t.args.length : Int) == 1) = true ↔ t.arOk) by simp [Tm.arOk, Tm.arity, arK, hk])
    have hc : (w.alloc (.cells #[.int .i64 10, .string t.name, .string t.other, .int .i64 t.n, .int .i64 t.ty.kind, .slice tp t.ty.args.length tc, .int .i64 t.res.kind, .slice rp t.res.args.length rc, .slice p t.args.length c] 36)).cell? ⟨0, 10, none⟩ = some (.int .i64 1) := by rw [HK.out _ 10]; rfl
    rw [hk]
    clear h4 hr hk hl
    go_enter Tryd.func71, Tryd.ntmps71
    go_wp2_with fail
    go_region_held3 (fun w' => w'.cell? ⟨w.heap.size, 0, none⟩ = some (.int .i64 10) ∧ w'.cell? ⟨w.heap.size, 8, none⟩ = some (.slice p t.args.length c) ∧ w'.cell? ⟨0, 10, none⟩ = some (.int .i64 1) ∧ Below w.heap.size w w')
      (first
        | (go_keep; done)
        | exact ⟨cell_of_blk (blk_new w _) 0, cell_of_blk (blk_new w _) 8, hc, (HB.out _).drew⟩)
      (first
        | fail)
    rename_i hH
    have HBL := Lib.hid hH.2.2.2
    clear hH hc
    go_wp2_with fail
    go_ret
    exact ⟨_, HA.out, rfl, HBL.out⟩
  · have HA := Lib.hid (show (((t.args.length : Int) == 1) = true ↔ t.arOk) by simp [Tm.arOk, Tm.arity, arK, hk])
    have hc : (w.alloc (.cells #[.int .i64 11, .string t.name, .string t.other, .int .i64 t.n, .int .i64 t.ty.kind, .slice tp t.ty.args.length tc, .int .i64 t.res.kind, .slice rp t.res.args.length rc, .slice p t.args.length c] 36)).cell? ⟨0, 11, none⟩ = some (.int .i64 1) := by rw [HK.out _ 11]; rfl
    rw [hk]
    clear h4 hr hk hl
    go_enter Tryd.func71, Tryd.ntmps71
    go_wp2_with fail
    go_region_held3 (fun w' => w'.cell? ⟨w.heap.size, 0, none⟩ = some (.int .i64 11) ∧ w'.cell? ⟨w.heap.size, 8, none⟩ = some (.slice p t.args.length c) ∧ w'.cell? ⟨0, 11, none⟩ = some (.int .i64 1) ∧ Below w.heap.size w w')
      (first
        | (go_keep; done)
        | exact ⟨cell_of_blk (blk_new w _) 0, cell_of_blk (blk_new w _) 8, hc, (HB.out _).drew⟩)
      (first
        | fail)
    rename_i hH
    have HBL := Lib.hid hH.2.2.2
    clear hH hc
    go_wp2_with fail
    go_ret
    exact ⟨_, HA.out, rfl, HBL.out⟩
  · have HA := Lib.hid (show (((t.args.length : Int) == 1) = true ↔ t.arOk) by simp [Tm.arOk, Tm.arity, arK, hk])
    have hc : (w.alloc (.cells #[.int .i64 12, .string t.name, .string t.other, .int .i64 t.n, .int .i64 t.ty.kind, .slice tp t.ty.args.length tc, .int .i64 t.res.kind, .slice rp t.res.args.length rc, .slice p t.args.length c] 36)).cell? ⟨0, 12, none⟩ = some (.int .i64 1) := by rw [HK.out _ 12]; rfl
    rw [hk]
    clear h4 hr hk hl
    go_enter Tryd.func71, Tryd.ntmps71
    go_wp2_with fail
    go_region_held3 (fun w' => w'.cell? ⟨w.heap.size, 0, none⟩ = some (.int .i64 12) ∧ w'.cell? ⟨w.heap.size, 8, none⟩ = some (.slice p t.args.length c) ∧ w'.cell? ⟨0, 12, none⟩ = some (.int .i64 1) ∧ Below w.heap.size w w')
      (first
        | (go_keep; done)
        | exact ⟨cell_of_blk (blk_new w _) 0, cell_of_blk (blk_new w _) 8, hc, (HB.out _).drew⟩)
      (first
        | fail)
    rename_i hH
    have HBL := Lib.hid hH.2.2.2
    clear hH hc
    go_wp2_with fail
    go_ret
    exact ⟨_, HA.out, rfl, HBL.out⟩
  · have HA := Lib.hid (show (((t.args.length : Int) == 1) = true ↔ t.arOk) by simp [Tm.arOk, Tm.arity, arK, hk])
    have hc : (w.alloc (.cells #[.int .i64 13, .string t.name, .string t.other, .int .i64 t.n, .int .i64 t.ty.kind, .slice tp t.ty.args.length tc, .int .i64 t.res.kind, .slice rp t.res.args.length rc, .slice p t.args.length c] 36)).cell? ⟨0, 13, none⟩ = some (.int .i64 1) := by rw [HK.out _ 13]; rfl
    rw [hk]
    clear h4 hr hk hl
    go_enter Tryd.func71, Tryd.ntmps71
    go_wp2_with fail
    go_region_held3 (fun w' => w'.cell? ⟨w.heap.size, 0, none⟩ = some (.int .i64 13) ∧ w'.cell? ⟨w.heap.size, 8, none⟩ = some (.slice p t.args.length c) ∧ w'.cell? ⟨0, 13, none⟩ = some (.int .i64 1) ∧ Below w.heap.size w w')
      (first
        | (go_keep; done)
        | exact ⟨cell_of_blk (blk_new w _) 0, cell_of_blk (blk_new w _) 8, hc, (HB.out _).drew⟩)
      (first
        | fail)
    rename_i hH
    have HBL := Lib.hid hH.2.2.2
    clear hH hc
    go_wp2_with fail
    go_ret
    exact ⟨_, HA.out, rfl, HBL.out⟩
end Go.Proofs.YtdfnjfelmfccjaaDoor
/- ScopeA: The contracts of the program's argsInScope and namesBoundBy. -/
namespace Go.Proofs.YtdfnjfelmfccjaaDoor
open Go Go.RowKit

/-- The parts of a term that are looked at. -/
def Tm.sc (t : Tm) : List Tm := if t.kind = 1 then [] else t.args
theorem sc_var {t : Tm} (h : t.kind = 1) : t.sc = [] := by unfold Tm.sc; rw [if_pos h]
theorem sc_not {t : Tm} (h : ¬ t.kind = 1) : t.sc = t.args := by unfold Tm.sc; rw [if_neg h]
def scV (t : Tm) (p : Option Addr) (c : Nat) : Value := if t.kind = 1 then .slice none 0 0 else .slice p t.args.length c
set_option maxRecDepth 100000 in
set_option maxHeartbeats 1000000 in
theorem argsSc_any {w : World} {b o : Nat} {t : Tm} {tp rp p : Option Addr} {tc rc c : Nat} (h : At9 w b o t tp tc rp rc p c) :
    Calls Tryd.prog 82 #[.pointer (some ⟨b, o, none⟩)] w fun e w' => e = .returned (scV t p c) ∧ w' = w := by
  obtain ⟨g0, g1, g2, g3, g4, g5, g6, g7, g8⟩ := h
  go_enter Tryd.func82, Tryd.ntmps82
  by_cases h1 : t.kind = 1
  · have e1 : (t.kind == 1) = true := by simp; omega
    have HV := Lib.hid (show scV t p c = .slice none 0 0 by unfold scV; rw [if_pos h1])
    clear h1
    go_wp2_with fail
    go_ret
    exact ⟨by rw [HV.out]; rfl, rfl⟩
  · have e1 : (t.kind == 1) = false := by simp; omega
    have HV := Lib.hid (show scV t p c = .slice p t.args.length c by unfold scV; rw [if_neg h1])
    clear h1
    go_wp2_with fail
    go_ret
    exact ⟨by rw [HV.out]; rfl, rfl⟩

/-- A slice of names: nil, or a row. -/
def NmV (w : World) (base : Nat) (xs : List ByteArray) (v : Value) : Prop := (xs = [] ∧ v = .slice none 0 0) ∨ (xs ≠ [] ∧ Own w base v xs)
theorem ar_six {t : Tm} (h : t.kind = 6) : t.arOk ↔ t.args.length = 1 := by
  unfold Tm.arOk
  rw [show t.arity = 1 by unfold Tm.arity; rw [h]; rfl]
  exact ⟨fun h => by omega, fun h => ⟨by omega, fun h => by omega⟩⟩
theorem ar_eight {t : Tm} (h : t.kind = 8) : t.arOk ↔ t.args.length = 2 := by
  unfold Tm.arOk
  rw [show t.arity = 2 by unfold Tm.arity; rw [h]; rfl]
  exact ⟨fun h => by omega, fun h => ⟨by omega, fun h => by omega⟩⟩
theorem ar_nine {t : Tm} (h : t.kind = 9) : t.arOk ↔ t.args.length = 1 := by
  unfold Tm.arOk
  rw [show t.arity = 1 by unfold Tm.arity; rw [h]; rfl]
  exact ⟨fun h => by omega, fun h => ⟨by omega, fun h => by omega⟩⟩
theorem bnd_no {t : Tm} (h : ¬ t.arOk) : t.bnd = [] := by
  unfold Tm.bnd
  rw [if_neg (fun e => h ((ar_six e.1).2 e.2)), if_neg (fun e => h ((ar_eight e.1).2 e.2)), if_neg (fun e => h ((ar_nine e.1).2 e.2))]
theorem bnd_one {t : Tm} (h : t.arOk) (hk : t.kind = 6 ∨ t.kind = 8) : t.bnd = [t.name] := by
  unfold Tm.bnd
  rcases hk with hk | hk
  · rw [if_pos ⟨hk, (ar_six hk).1 h⟩]
  · rw [if_neg (fun e => by omega), if_pos ⟨hk, (ar_eight hk).1 h⟩]
theorem bnd_two {t : Tm} (h : t.arOk) (hk : t.kind = 9) : t.bnd = [t.name, t.other] := by
  unfold Tm.bnd
  rw [if_neg (fun e => by omega), if_neg (fun e => by omega), if_pos ⟨hk, (ar_nine hk).1 h⟩]
theorem bnd_oth {t : Tm} (h6 : ¬ t.kind = 6) (h8 : ¬ t.kind = 8) (h9 : ¬ t.kind = 9) : t.bnd = [] := by
  unfold Tm.bnd
  rw [if_neg (fun e => h6 e.1), if_neg (fun e => h8 e.1), if_neg (fun e => h9 e.1)]
set_option maxRecDepth 100000 in
set_option maxHeartbeats 4000000 in
theorem bndI_any {w : World} {b o : Nat} {t : Tm} {tp rp p : Option Addr} {tc rc c : Nat} (h : At9 w b o t tp tc rp rc p c) (hka : KA w) (hn : t.wt ≤ 2097152) :
    Calls Tryd.prog 83 #[.pointer (some ⟨b, o, none⟩)] w fun e w' => ∃ v, e = .returned v ∧ NmV w' w.heap.size t.bnd v ∧ Below w.heap.size w w' := by
  have HA := Lib.hid (hasAr_any t tp tc rp rc p c w hka hn)
  have H9 := Lib.hid (fun w' (hb : Below w.heap.size w w') => ((⟨(hb.cell (World.block_lt_of_cell? w _ h.kind)).trans h.kind, (hb.cell (World.block_lt_of_cell? w _ h.name)).trans h.name, (hb.cell (World.block_lt_of_cell? w _ h.other)).trans h.other, (hb.cell (World.block_lt_of_cell? w _ h.n)).trans h.n, (hb.cell (World.block_lt_of_cell? w _ h.tk)).trans h.tk, (hb.cell (World.block_lt_of_cell? w _ h.ta)).trans h.ta, (hb.cell (World.block_lt_of_cell? w _ h.rk)).trans h.rk, (hb.cell (World.block_lt_of_cell? w _ h.ra)).trans h.ra, (hb.cell (World.block_lt_of_cell? w _ h.args)).trans h.args⟩ : At9 w' b o t tp tc rp rc p c)))
  obtain ⟨g0, g1, g2, g3, g4, g5, g6, g7, g8⟩ := h
  clear hka
  go_enter Tryd.func83, Tryd.ntmps83
  go_wp2_with fail
  refine HA.out.mono ?_
  rintro e w1 ⟨r, hr, rfl, hb1⟩
  have HR := Lib.hid hr
  have HB1 := Lib.hid hb1
  clear g0 g1 g2 g3 g4 g5 g6 g7 g8
  obtain ⟨g0, g1, g2, g3, g4, g5, g6, g7, g8⟩ := H9.out w1 hb1
  clear hr hb1
  cases r with
  | false =>
    have HV := Lib.hid (bnd_no (t := t) (fun h => by have := HR.out.2 h; cases this))
    go_wp2_with fail
    go_ret
    exact ⟨_, rfl, Or.inl ⟨HV.out, rfl⟩, HB1.out⟩
  | true =>
    have HK := Lib.hid (HR.out.1 rfl)
    by_cases h6 : t.kind = 6
    · have e6 : (t.kind == 6) = true := by simp; omega
      have HV := Lib.hid (bnd_one HK.out (Or.inl h6))
      clear h6
      go_wp2_with fail
      go_ret
      exact ⟨_, rfl, Or.inr ⟨by rw [HV.out]; simp, by rw [HV.out]; exact (own_one w1 t.name).base HB1.out.size⟩, HB1.out.trans ((al_below w1 _).mono HB1.out.size)⟩
    have e6 : (t.kind == 6) = false := by simp; omega
    by_cases h8 : t.kind = 8
    · have e8 : (t.kind == 8) = true := by simp; omega
      have HV := Lib.hid (bnd_one HK.out (Or.inr h8))
      clear h6 h8
      go_wp2_with fail
      go_ret
      exact ⟨_, rfl, Or.inr ⟨by rw [HV.out]; simp, by rw [HV.out]; exact (own_one w1 t.name).base HB1.out.size⟩, HB1.out.trans ((al_below w1 _).mono HB1.out.size)⟩
    have e8 : (t.kind == 8) = false := by simp; omega
    by_cases h9 : t.kind = 9
    · have e9 : (t.kind == 9) = true := by simp; omega
      have HV := Lib.hid (bnd_two HK.out h9)
      clear h6 h8 h9
      go_wp2_with fail
      go_region
      go_wp2_with fail
      go_ret
      have hd := (Below.refl w1.heap.size w1).drew
      exact ⟨_, rfl, Or.inr ⟨by rw [HV.out]; simp, by rw [HV.out]; exact (own_two w1.drew t.name t.other).base HB1.out.size⟩, (HB1.out.trans (hd.mono HB1.out.size)).trans ((al_below w1.drew _).mono HB1.out.size)⟩
    · have e9 : (t.kind == 9) = false := by simp; omega
      have HV := Lib.hid (bnd_oth h6 h8 h9)
      clear h6 h8 h9
      go_wp2_with fail
      go_ret
      exact ⟨_, rfl, Or.inl ⟨HV.out, rfl⟩, HB1.out⟩
end Go.Proofs.YtdfnjfelmfccjaaDoor
/- SpecEq: The contract of the model's EqualType. -/
namespace Go.Proofs.YtdfnjfelmfccjaaDoor
open Go Go.RowKit

theorem keep6 {w W w1 : World} {p1 p2 p3 p4 p5 p6 : Addr} {v1 v2 v3 v4 v5 v6 : Value} (hb1 : Below W.heap.size W w1) (h : W.cell? p1 = some v1 ∧ W.cell? p2 = some v2 ∧ W.cell? p3 = some v3 ∧ W.cell? p4 = some v4 ∧ W.cell? p5 = some v5 ∧ W.cell? p6 = some v6 ∧ Below w.heap.size w W) :
    w1.cell? p1 = some v1 ∧ w1.cell? p2 = some v2 ∧ w1.cell? p3 = some v3 ∧ w1.cell? p4 = some v4 ∧ w1.cell? p5 = some v5 ∧ w1.cell? p6 = some v6 ∧ Below w.heap.size w w1 := by
  have k : ∀ {p : Addr} {v : Value}, W.cell? p = some v → w1.cell? p = some v := fun h => (hb1.cell (World.block_lt_of_cell? W _ h)).trans h
  exact ⟨k h.1, k h.2.1, k h.2.2.1, k h.2.2.2.1, k h.2.2.2.2.1, k h.2.2.2.2.2.1, h.2.2.2.2.2.2.trans (hb1.mono h.2.2.2.2.2.2.size)⟩

end Go.Proofs.YtdfnjfelmfccjaaDoor
/- RangeT: A range over an iterator that keeps memory of its own and reads what the caller laid: what iterator and body owe each other, and the loop's law. Of no program. -/
namespace Go.Proofs.YtdfnjfelmfccjaaDoor
open Go Go.RowKit

/-- Every block but those of Cb is as it was. -/
def Holds (Cb : Nat → Prop) (w w' : World) : Prop := w.heap.size ≤ w'.heap.size ∧ ∀ b, b < w.heap.size → ¬ Cb b → w'.heap[b]? = w.heap[b]?
theorem Holds.refl (Cb : Nat → Prop) (w : World) : Holds Cb w w := ⟨Nat.le_refl _, fun _ _ _ => rfl⟩
theorem Holds.trans {Cb : Nat → Prop} {a b c : World} (h : Holds Cb a b) (k : Holds Cb b c) : Holds Cb a c :=
  ⟨Nat.le_trans h.1 k.1, fun i hi hc => (k.2 i (Nat.lt_of_lt_of_le hi h.1) hc).trans (h.2 i hi hc)⟩
theorem Holds.of_below {Cb : Nat → Prop} {w w' : World} (h : Below w.heap.size w w') : Holds Cb w w' := ⟨h.size, fun b hb _ => h.block b hb⟩
theorem Holds.setCell {Cb : Nat → Prop} {w w' : World} (h : Holds Cb w w') (p : Addr) (hp : Cb p.block) (v : Value) : Holds Cb w (w'.setCell p v) :=
  h.trans ⟨((Below.refl p.block w').setCell (Nat.le_refl _) v).size, fun b _ hc => Below.heap_setCell _ _ _ _ (fun e => hc (by rw [e]; exact hp))⟩

/-- What an iterator owes: each of 'all' comes in order, until the body says no. J: what the body keeps between two rounds; it does not mind what happens in blocks from the iterator's start on. -/
def SeqT {α β : Type} (F : Fence) (n : Nat) (P : Program) (g : Nat) (lb : Array Value) (encs : α → Array Value) (key : α → β) (Good : α → World → Prop) (Cb : Nat → Prop) (all : List β) (w : World) : Prop :=
  ∀ (l : Nat) (J Jx : List β → World → Prop) (W : World), Below w.heap.size w W → (∀ pre A B, J pre A → Below W.heap.size A B → J pre B) →
    (∀ pre x W1, J pre W1 → pre ++ [key x] <+: all → Good x W1 → YieldAt F (n - 1) P l (encs x) W1 fun e W' =>
      (e = .returned (.bool true) ∧ J (pre ++ [key x]) W' ∧ Holds Cb W1 W') ∨ (e = .returned (.bool false) ∧ Jx (pre ++ [key x]) W')) →
    J [] W →
    CallsIn F n P g (#[.func (.yield l) #[] #[]] ++ lb) W fun e W' => (∃ v, e = .returned v) ∧ (J all W' ∨ ∃ pre, pre <+: all ∧ Jx pre W')

/-- How a round's body may be left. -/
def postT {β : Type} (Cb : Nat → Prop) (I : List β → World → Prop) (Ix : Code → List β → World → Prop) (xs : List β) (W : World) : Exit → Act → World → Prop
  | .normal, _, W' => Holds Cb W W' ∧ I xs W'
  | .ret, _, W' => Holds Cb W W' ∧ Ix .ret xs W'
  | .exit id, _, W' => Holds Cb W W' ∧ Ix (.exit id) xs W'
  | .goto t, _, W' => Holds Cb W W' ∧ Ix (.goto t) xs W'
  | .panic _, _, _ => False
  | .outgrown, _, _ => False

theorem below_putObj (n : Nat) (W : World) (l : Nat) (o : Obj) (h : n ≤ l) : Below n W (W.putObj l o) :=
  ⟨rfl, rfl, rfl, by simp, fun k hk => World.putObj_heap_other (by omega)⟩

variable {F : Fence} {n : Nat} {P : Program}

/-- THE LOOP OVER SUCH AN ITERATOR. -/
theorem range_law {α β : Type} {g : Operand} {ps : Array Tmp} {assign body : Code} {Q : Exit → Act → World → Prop} {a : Act} {w : World}
    (hro : F.round = none) (h1 : 1 ≤ n) {gf : Nat} {lb : Array Value} (hg : a.eval g = .func (.func gf) #[] lb) (hFg : F.fn gf) (eg : ∀ args w, (callFunc gf args).run P w = .ok (.enter gf args) w)
    {encs : α → Array Value} {key : α → β} {Good : α → World → Prop} {Cb : Nat → Prop} {all : List β} (hseq : SeqT F (n - 1) P gf lb encs key Good Cb all w) (hps : ∀ x, (encs x).size = ps.size) (hCb : ∀ b, Cb b → b < w.heap.size)
    (I : List β → World → Prop) (Ix : Code → List β → World → Prop) (hI : ∀ pre A B, I pre A → Below w.heap.size A B → I pre B) (hIx : ∀ c pre A B, Ix c pre A → Below w.heap.size A B → Ix c pre B)
    (hG : ∀ x A B, Good x A → Below w.heap.size A B → Good x B) (h0 : I [] w)
    (Ax : α → Act → World → Prop) (hAx : ∀ x a' W l r o, Ax x a' W → W.heap[l]? = some (.loop r) → Ax x a' (W.putObj l o))
    (hassign : ∀ (l : Nat) (x : α) (W : World) (K : Act → World → Prop), Good x W → (∀ a' W', Below W.heap.size W W' → Ax x a' W' → K a' W') →
      assign.wpIn (F.inRound l) (n - 1 - 1) P (Exit.then K (fun _ _ _ => False)) { tmps := (ps.zip (encs x)).foldl (fun t (p, v) => t.setIfInBounds p v) a.tmps, defers := [] } W)
    (hbody : ∀ (l : Nat) (pre : List β) (x : α) (a' : Act) (W : World), I pre W → pre ++ [key x] <+: all → Good x W → Ax x a' W → body.wpIn (F.inRound l) (n - 1 - 1) P (postT Cb I Ix (pre ++ [key x]) W) a' W)
    (hdone : ∀ (D : Nat) (W : World), w.heap.size ≤ D → I all W → W.heap[D]? = some (.deferred (some [])) → Q .normal { a with defers := { target := .collected D, args := #[] } :: a.defers } W)
    (hstop : ∀ (D : Nat) (c : Code) (pre : List β) (W : World), w.heap.size ≤ D → pre <+: all → Ix c pre W → W.heap[D]? = some (.deferred (some [])) → c.wpIn F n P Q { a with defers := { target := .collected D, args := #[] } :: a.defers } W) :
    (Code.rangeFunc g ps assign body).wpIn F n P Q a w := by
  refine wpIn_rangeFunc (fun fn hfn => ?_)
  rw [hro]
  -- the record of the loop, in its three states
  let rec_ : LoopState → Option Code → Loop := fun st pe => { state := st, pending := pe, fn, tmps := a.tmps, params := ps, assign, body, defers := w.heap.size }
  let w1 := (w.alloc (.deferred (some []))).alloc (.loop (rec_ .ready none))
  have hs1 : w1.heap.size = w.heap.size + 2 := by simp [w1]
  have hb1 : Below w.heap.size w w1 := ((Below.refl _ w).alloc (Nat.le_refl _) _).alloc (by simp) _
  have hl1 : w1.heap[w.heap.size + 1]? = some (.loop (rec_ .ready none)) := by
    have := World.alloc_heap_new (w.alloc (.deferred (some []))) (.loop (rec_ .ready none))
    rwa [World.size_alloc] at this
  have hd1 : w1.heap[w.heap.size]? = some (.deferred (some [])) := (Below.heap_alloc _ _ _ (by simp)).trans (World.alloc_heap_new w _)
  refine ⟨w.heap.size + 1, [{ target := .collected w.heap.size, args := #[] }], w1, { target := .fn (.func gf) lb, args := #[.func (.yield (w.heap.size + 1)) #[] #[]] }, w1, gf,
    #[.func (.yield (w.heap.size + 1)) #[] #[]] ++ lb, w1, run_enterLoop_outer _ _ _ _ _, by simp only [resolve, hg]; simp [go_sem], fun f' hf' => by simp [Target.leads] at hf'; subst hf'; exact hFg, by simp [invoke, go_sem, eg], fun _ => h1, ?_⟩
  have still : ∀ {A B : World} {k : Nat} {o : Obj}, Below w1.heap.size A B → k < w1.heap.size → A.heap[k]? = some o → B.heap[k]? = some o := fun hb hk h => (hb.block _ hk).trans h
  refine (hseq (w.heap.size + 1)
    (fun pre W => I pre W ∧ W.heap[w.heap.size + 1]? = some (.loop (rec_ .ready none)) ∧ W.heap[w.heap.size]? = some (.deferred (some [])))
    (fun pre W => ∃ c, Ix c pre W ∧ W.heap[w.heap.size + 1]? = some (.loop (rec_ .done (some c))) ∧ W.heap[w.heap.size]? = some (.deferred (some [])))
    w1 hb1 (fun pre A B h hb => ⟨hI pre A B h.1 (hb.mono (by omega)), still hb (by omega) h.2.1, still hb (by omega) h.2.2⟩) ?_ ⟨hI _ _ _ h0 hb1, hl1, hd1⟩).mono ?_
  · -- one round
    rintro pre x W ⟨hi, hl, hd⟩ hpre hgood
    have hy := run_yield (P := P) (args := encs x) hl (hps x)
    refine ⟨fn, _, assign, body, hy, roundIn_of_wpIn hfn (hassign _ x W _ hgood (fun a' Wa hba hax => ?_))⟩
    have hlt : w.heap.size + 1 < W.heap.size := (Array.getElem?_eq_some_iff.1 hl).1
    have hla : Wa.heap[w.heap.size + 1]? = some (.loop (rec_ .ready none)) := (hba.block _ hlt).trans hl
    have hda : Wa.heap[w.heap.size]? = some (.deferred (some [])) := (hba.block _ (by omega)).trans hd
    refine ⟨_, run_beginRound hla rfl, ?_⟩
    have hlta : w.heap.size + 1 < Wa.heap.size := (Array.getElem?_eq_some_iff.1 hla).1
    let busy : Loop := { rec_ .ready none with state := .busy }
    let Wb := Wa.putObj (w.heap.size + 1) (.loop busy)
    have hbb : Below w.heap.size Wa Wb := below_putObj _ _ _ _ (by omega)
    have hlb : Wb.heap[w.heap.size + 1]? = some (.loop busy) := World.putObj_heap_same hlta
    have hdb : Wb.heap[w.heap.size]? = some (.deferred (some [])) := (World.putObj_heap_other (by omega)).trans hda
    have hbwb := (hba.mono (Nat.le_of_lt (by omega : w.heap.size < W.heap.size))).trans hbb
    refine wpIn_mono (hbody _ pre x a' Wb (hI _ _ _ hi hbwb) hpre (hG _ _ _ hgood hbwb) (hAx _ _ _ _ _ _ hax hla)) ?_
    have fin : ∀ (jump : Option Code) (W3 : World), Holds Cb Wb W3 →
        (Instr.endRound (w.heap.size + 1) jump).run P W3 = .ok (.bool jump.isNone) (W3.putObj (w.heap.size + 1) (.loop (rec_ (if jump.isNone then .ready else .done) jump))) ∧
        Below w.heap.size W3 (W3.putObj (w.heap.size + 1) (.loop (rec_ (if jump.isNone then .ready else .done) jump))) ∧
        (W3.putObj (w.heap.size + 1) (.loop (rec_ (if jump.isNone then .ready else .done) jump))).heap[w.heap.size + 1]? = some (.loop (rec_ (if jump.isNone then .ready else .done) jump)) ∧
        (W3.putObj (w.heap.size + 1) (.loop (rec_ (if jump.isNone then .ready else .done) jump))).heap[w.heap.size]? = some (.deferred (some [])) := fun jump W3 hk => by
      have hwb : Wb.heap.size = Wa.heap.size := by simp [Wb]
      have h3 : W3.heap[w.heap.size + 1]? = some (.loop busy) := (hk.2 _ (by omega) (fun hc => by have := hCb _ hc; omega)).trans hlb
      have hd3 : W3.heap[w.heap.size]? = some (.deferred (some [])) := (hk.2 _ (by omega) (fun hc => by have := hCb _ hc; omega)).trans hdb
      exact ⟨run_endRound (P := P) jump h3, below_putObj _ _ _ _ (by omega), World.putObj_heap_same (Array.getElem?_eq_some_iff.1 h3).1, (World.putObj_heap_other (by omega)).trans hd3⟩
    have whole : ∀ W3, Holds Cb Wb W3 → Holds Cb W (W3.putObj (w.heap.size + 1) (.loop (rec_ .ready none))) := fun W3 hk => by
      have hwb : Wb.heap.size = Wa.heap.size := by simp [Wb]
      have hsz := hba.size
      refine ⟨by have := hk.1; simp; omega, fun b hb hc => ?_⟩
      by_cases e : b = w.heap.size + 1
      · subst e
        rw [World.putObj_heap_same (by have := hk.1; omega)]; exact hl.symm
      · rw [World.putObj_heap_other e, hk.2 b (by omega) hc, World.putObj_heap_other e, hba.block b hb]
    rintro e a3 W3 hp
    cases e with
    | normal =>
      obtain ⟨hk, hi3⟩ := hp
      obtain ⟨hr, hb3, hl3, hd3⟩ := fin none W3 hk
      exact ⟨_, _, hr, .inl ⟨rfl, ⟨hI _ _ _ hi3 hb3, hl3, hd3⟩, whole W3 hk⟩⟩
    | ret =>
      obtain ⟨hk, hi3⟩ := hp
      obtain ⟨hr, hb3, hl3, hd3⟩ := fin (some .ret) W3 hk
      exact ⟨_, _, hr, .inr ⟨rfl, .ret, hIx _ _ _ _ hi3 hb3, hl3, hd3⟩⟩
    | exit id =>
      obtain ⟨hk, hi3⟩ := hp
      obtain ⟨hr, hb3, hl3, hd3⟩ := fin (some (.exit id)) W3 hk
      exact ⟨_, _, hr, .inr ⟨rfl, .exit id, hIx _ _ _ _ hi3 hb3, hl3, hd3⟩⟩
    | goto t =>
      obtain ⟨hk, hi3⟩ := hp
      obtain ⟨hr, hb3, hl3, hd3⟩ := fin (some (.goto t)) W3 hk
      exact ⟨_, _, hr, .inr ⟨rfl, .goto t, hIx _ _ _ _ hi3 hb3, hl3, hd3⟩⟩
    | panic ch => exact hp.elim
    | outgrown => exact hp.elim
  · -- the iterator has returned
    rintro e W2 ⟨⟨v, rfl⟩, (⟨hi, hl, hd⟩ | ⟨pre, hpre, c, hi, hl, hd⟩)⟩
    · exact ⟨none, _, run_endLoop (P := P) hl (by simp [rec_]), hdone _ _ (Nat.le_refl _) (hI _ _ _ hi (below_putObj _ _ _ _ (by omega))) ((World.putObj_heap_other (by omega)).trans hd)⟩
    · exact ⟨some c, _, run_endLoop (P := P) hl (by simp [rec_]), hstop _ c pre _ (Nat.le_refl _) hpre (hIx _ _ _ _ hi (below_putObj _ _ _ _ (by omega))) ((World.putObj_heap_other (by omega)).trans hd)⟩
end Go.Proofs.YtdfnjfelmfccjaaDoor
/- Kind: The contracts of the program's kinds of types: arity, kindOf, IsBase, isCode. -/
namespace Go.Proofs.YtdfnjfelmfccjaaDoor
open Go Go.RowKit

theorem ar_int (w : World) : Calls Tryd.prog 119 #[.agg #[]] w fun e w' => e = .returned (.int .i64 0) ∧ Below w.heap.size w w' := by
  go_enter Tryd.func119, Tryd.ntmps119
  go_wp2
  go_ret
  exact ⟨rfl, (Below.refl _ _).alloc (Nat.le_refl _) _⟩
theorem ar_bool (w : World) : Calls Tryd.prog 120 #[.agg #[]] w fun e w' => e = .returned (.int .i64 0) ∧ Below w.heap.size w w' := by
  go_enter Tryd.func120, Tryd.ntmps120
  go_wp2
  go_ret
  exact ⟨rfl, (Below.refl _ _).alloc (Nat.le_refl _) _⟩
theorem ar_fun (w : World) : Calls Tryd.prog 121 #[.agg #[]] w fun e w' => e = .returned (.int .i64 2) ∧ Below w.heap.size w w' := by
  go_enter Tryd.func121, Tryd.ntmps121
  go_wp2
  go_ret
  exact ⟨rfl, (Below.refl _ _).alloc (Nat.le_refl _) _⟩
theorem ar_code (w : World) : Calls Tryd.prog 122 #[.agg #[]] w fun e w' => e = .returned (.int .i64 1) ∧ Below w.heap.size w w' := by
  go_enter Tryd.func122, Tryd.ntmps122
  go_wp2
  go_ret
  exact ⟨rfl, (Below.refl _ _).alloc (Nat.le_refl _) _⟩

theorem meth_int (w : World) : (method 241 116 (.agg #[]) "loop.example/g00589/impl.arity").run Tryd.prog w = .ok (119, .agg #[]) w := by kernel_rfl
theorem meth_bool (w : World) : (method 241 117 (.agg #[]) "loop.example/g00589/impl.arity").run Tryd.prog w = .ok (120, .agg #[]) w := by kernel_rfl
theorem meth_fun (w : World) : (method 241 118 (.agg #[]) "loop.example/g00589/impl.arity").run Tryd.prog w = .ok (121, .agg #[]) w := by kernel_rfl
theorem meth_code (w : World) : (method 241 119 (.agg #[]) "loop.example/g00589/impl.arity").run Tryd.prog w = .ok (122, .agg #[]) w := by kernel_rfl

/-- The kind's value, by the kind's number and the number of parts. -/
def kindV (k : Int) (n : Nat) : Value :=
  if k = 1 ∧ n = 0 then .iface 116 (.agg #[])
  else if k = 2 ∧ n = 0 then .iface 117 (.agg #[])
  else if k = 3 ∧ n = 2 then .iface 118 (.agg #[])
  else if k = 4 ∧ n = 1 then .iface 119 (.agg #[])
  else .nilIface

theorem keep1 {w W w1 : World} {p1 : Addr} {v1 : Value} (hb1 : Below W.heap.size W w1) (h : W.cell? p1 = some v1 ∧ Below w.heap.size w W) : w1.cell? p1 = some v1 ∧ Below w.heap.size w w1 :=
  ⟨(hb1.cell (World.block_lt_of_cell? W _ h.1)).trans h.1, h.2.trans (hb1.mono h.2.size)⟩

set_option maxRecDepth 100000 in
set_option maxHeartbeats 1000000 in
theorem kindOf_any (k : Int) (p : Option Addr) (n c : Nat) (w : World) (hn : n ≤ 9223372036854775807) :
    Calls Tryd.prog 92 #[.agg #[.int .i64 k, .slice p n c]] w fun e w' => e = .returned (kindV k n) ∧ Below w.heap.size w w' := by
  have HV := Lib.hid (fun v (h : kindV k n = v) (w' : World) (hb : Below w.heap.size w w') => (⟨by rw [h], hb⟩ : Ending.returned v = .returned (kindV k n) ∧ Below w.heap.size w w'))
  go_enter Tryd.func92, Tryd.ntmps92
  by_cases q1 : k = 1
  · subst q1
    have hm := meth_int
    have hB : Below w.heap.size w (w.alloc (Obj.cells #[.int .i64 1, .slice p n c] 33)) := (Below.refl w.heap.size w).alloc (Nat.le_refl _) _
    go_wp2_with fail
    go_region_held3 (fun w' => w'.cell? ⟨w.heap.size, 1, none⟩ = some (.slice p n c) ∧ Below w.heap.size w w')
      (first
        | (go_keep; done)
        | exact ⟨by simp [*], hB.drew⟩
        | exact keep1 hb1 (by assumption))
      (first | (go_at_call 119; refine (ar_int _).mono ?_; rintro e w1 ⟨rfl, hb1⟩))
    all_goals
      rename_i hH
      have HB := Lib.hid hH.2
      clear hH hb1 hB hm
      by_cases hz : n = 0
      · subst hz
        go_wp2_with fail
        go_ret
        exact HV.out _ (by simp [kindV]) _ HB.out
      · go_wp2_with fail
        go_ret
        exact HV.out _ (by simp [kindV, hz]) _ HB.out
  by_cases q2 : k = 2
  · subst q2
    have hm := meth_bool
    have hB : Below w.heap.size w (w.alloc (Obj.cells #[.int .i64 2, .slice p n c] 33)) := (Below.refl w.heap.size w).alloc (Nat.le_refl _) _
    go_wp2_with fail
    go_region_held3 (fun w' => w'.cell? ⟨w.heap.size, 1, none⟩ = some (.slice p n c) ∧ Below w.heap.size w w')
      (first
        | (go_keep; done)
        | exact ⟨by simp [*], hB.drew⟩
        | exact keep1 hb1 (by assumption))
      (first | (go_at_call 120; refine (ar_bool _).mono ?_; rintro e w1 ⟨rfl, hb1⟩))
    all_goals
      rename_i hH
      have HB := Lib.hid hH.2
      clear hH hb1 hB hm
      by_cases hz : n = 0
      · subst hz
        go_wp2_with fail
        go_ret
        exact HV.out _ (by simp [kindV]) _ HB.out
      · go_wp2_with fail
        go_ret
        exact HV.out _ (by simp [kindV, hz]) _ HB.out
  by_cases q3 : k = 3
  · subst q3
    have hm := meth_fun
    have hB : Below w.heap.size w (w.alloc (Obj.cells #[.int .i64 3, .slice p n c] 33)) := (Below.refl w.heap.size w).alloc (Nat.le_refl _) _
    go_wp2_with fail
    go_region_held3 (fun w' => w'.cell? ⟨w.heap.size, 1, none⟩ = some (.slice p n c) ∧ Below w.heap.size w w')
      (first
        | (go_keep; done)
        | exact ⟨by simp [*], hB.drew⟩
        | exact keep1 hb1 (by assumption))
      (first | (go_at_call 121; refine (ar_fun _).mono ?_; rintro e w1 ⟨rfl, hb1⟩))
    all_goals
      rename_i hH
      have HB := Lib.hid hH.2
      clear hH hb1 hB hm
      by_cases hz : n = 2
      · subst hz
        go_wp2_with fail
        go_ret
        exact HV.out _ (by simp [kindV]) _ HB.out
      · go_wp2_with fail
        go_ret
        exact HV.out _ (by simp [kindV, hz]) _ HB.out
  by_cases q4 : k = 4
  · subst q4
    have hm := meth_code
    have hB : Below w.heap.size w (w.alloc (Obj.cells #[.int .i64 4, .slice p n c] 33)) := (Below.refl w.heap.size w).alloc (Nat.le_refl _) _
    go_wp2_with fail
    go_region_held3 (fun w' => w'.cell? ⟨w.heap.size, 1, none⟩ = some (.slice p n c) ∧ Below w.heap.size w w')
      (first
        | (go_keep; done)
        | exact ⟨by simp [*], hB.drew⟩
        | exact keep1 hb1 (by assumption))
      (first | (go_at_call 122; refine (ar_code _).mono ?_; rintro e w1 ⟨rfl, hb1⟩))
    all_goals
      rename_i hH
      have HB := Lib.hid hH.2
      clear hH hb1 hB hm
      by_cases hz : n = 1
      · subst hz
        go_wp2_with fail
        go_ret
        exact HV.out _ (by simp [kindV]) _ HB.out
      · go_wp2_with fail
        go_ret
        exact HV.out _ (by simp [kindV, hz]) _ HB.out
  have hB := Lib.hid ((Below.refl w.heap.size w).alloc (Nat.le_refl _) (Obj.cells #[.int .i64 k, .slice p n c] 33))
  have t1 : (k == 1) = false := by simp [q1]
  have t2 : (k == 2) = false := by simp [q2]
  have t3 : (k == 3) = false := by simp [q3]
  have t4 : (k == 4) = false := by simp [q4]
  have hv := Lib.hid (show kindV k n = .nilIface by simp [kindV, q1, q2, q3, q4])
  clear q1 q2 q3 q4
  go_wp2_with fail
  go_region
  all_goals
    go_wp2_with fail
    go_ret
    exact HV.out _ hv.out _ hB.out.drew
end Go.Proofs.YtdfnjfelmfccjaaDoor
/- Kind2: The contracts of the program's IsBase and isCode. -/
namespace Go.Proofs.YtdfnjfelmfccjaaDoor
open Go Go.RowKit

theorem kindV_cases (k : Int) (n : Nat) : ((k = 1 ∧ n = 0) ∧ kindV k n = .iface 116 (.agg #[])) ∨ ((k = 2 ∧ n = 0) ∧ kindV k n = .iface 117 (.agg #[])) ∨
    ((k = 3 ∧ n = 2) ∧ kindV k n = .iface 118 (.agg #[])) ∨ ((k = 4 ∧ n = 1) ∧ kindV k n = .iface 119 (.agg #[])) ∨
    ((¬ (k = 1 ∧ n = 0) ∧ ¬ (k = 2 ∧ n = 0) ∧ ¬ (k = 3 ∧ n = 2) ∧ ¬ (k = 4 ∧ n = 1)) ∧ kindV k n = .nilIface) := by
  unfold kindV
  by_cases h1 : k = 1 ∧ n = 0
  · simp [h1]
  by_cases h2 : k = 2 ∧ n = 0
  · simp [h2]
  by_cases h3 : k = 3 ∧ n = 2
  · simp [h3]
  by_cases h4 : k = 4 ∧ n = 1
  · simp [h4]
  simp [h1, h2, h3, h4]

theorem as_int_int (w : World) : (Instr.typeAssert (.iface 116 (.agg #[])) 107 116 true).run Tryd.prog w = .ok (.tuple #[.agg #[], .bool true]) w := by kernel_rfl
theorem as_bool_int (w : World) : (Instr.typeAssert (.iface 117 (.agg #[])) 107 116 true).run Tryd.prog w = .ok (.tuple #[.agg #[], .bool false]) w := by kernel_rfl
theorem as_fun_int (w : World) : (Instr.typeAssert (.iface 118 (.agg #[])) 107 116 true).run Tryd.prog w = .ok (.tuple #[.agg #[], .bool false]) w := by kernel_rfl
theorem as_code_int (w : World) : (Instr.typeAssert (.iface 119 (.agg #[])) 107 116 true).run Tryd.prog w = .ok (.tuple #[.agg #[], .bool false]) w := by kernel_rfl
theorem as_nil_int (w : World) : (Instr.typeAssert .nilIface 107 116 true).run Tryd.prog w = .ok (.tuple #[.agg #[], .bool false]) w := by kernel_rfl
theorem as_int_bool (w : World) : (Instr.typeAssert (.iface 116 (.agg #[])) 107 117 true).run Tryd.prog w = .ok (.tuple #[.agg #[], .bool false]) w := by kernel_rfl
theorem as_bool_bool (w : World) : (Instr.typeAssert (.iface 117 (.agg #[])) 107 117 true).run Tryd.prog w = .ok (.tuple #[.agg #[], .bool true]) w := by kernel_rfl
theorem as_fun_bool (w : World) : (Instr.typeAssert (.iface 118 (.agg #[])) 107 117 true).run Tryd.prog w = .ok (.tuple #[.agg #[], .bool false]) w := by kernel_rfl
theorem as_code_bool (w : World) : (Instr.typeAssert (.iface 119 (.agg #[])) 107 117 true).run Tryd.prog w = .ok (.tuple #[.agg #[], .bool false]) w := by kernel_rfl
theorem as_nil_bool (w : World) : (Instr.typeAssert .nilIface 107 117 true).run Tryd.prog w = .ok (.tuple #[.agg #[], .bool false]) w := by kernel_rfl
theorem as_int_code (w : World) : (Instr.typeAssert (.iface 116 (.agg #[])) 107 119 true).run Tryd.prog w = .ok (.tuple #[.agg #[], .bool false]) w := by kernel_rfl
theorem as_bool_code (w : World) : (Instr.typeAssert (.iface 117 (.agg #[])) 107 119 true).run Tryd.prog w = .ok (.tuple #[.agg #[], .bool false]) w := by kernel_rfl
theorem as_fun_code (w : World) : (Instr.typeAssert (.iface 118 (.agg #[])) 107 119 true).run Tryd.prog w = .ok (.tuple #[.agg #[], .bool false]) w := by kernel_rfl
theorem as_code_code (w : World) : (Instr.typeAssert (.iface 119 (.agg #[])) 107 119 true).run Tryd.prog w = .ok (.tuple #[.agg #[], .bool true]) w := by kernel_rfl
theorem as_nil_code (w : World) : (Instr.typeAssert .nilIface 107 119 true).run Tryd.prog w = .ok (.tuple #[.agg #[], .bool false]) w := by kernel_rfl

theorem dec_t {P : Prop} [Decidable P] (h : P) : true = decide P := (decide_eq_true h).symm
theorem dec_f {P : Prop} [Decidable P] (h : ¬ P) : false = decide P := (decide_eq_false h).symm

def Ty.code (t : Ty) : Bool := decide (t.kind = 4 ∧ t.args.length = 1)

set_option maxRecDepth 100000 in
set_option maxHeartbeats 1000000 in
theorem isCode_any {C : Nat → Prop} {t : Ty} {v : Value} {w : World} (h : TT w C t v) :
    Calls Tryd.prog 96 #[v] w (BoolRet (fun r => r = t.code) w) := by
  obtain ⟨s, rfl, hS⟩ := h
  have hlen := hS.len
  obtain ⟨p, c, rfl⟩ := hS.form
  have HB0 := Lib.hid ((Below.refl w.heap.size w).alloc (Nat.le_refl _) (Obj.cells #[.int .i64 t.kind, .slice p t.args.length c] 33))
  have HV := Lib.hid (show t.code = decide (t.kind = 4 ∧ t.args.length = 1) from rfl)
  clear hS
  go_enter Tryd.func96, Tryd.ntmps96
  go_wp2_with fail
  refine (kindOf_any t.kind p t.args.length c _ hlen).mono ?_
  rintro e w1 ⟨rfl, hb1⟩
  have HB1 := Lib.hid (HB0.out.trans (hb1.mono HB0.out.size))
  clear hb1
  rcases kindV_cases t.kind t.args.length with ⟨hc, hk⟩ | ⟨hc, hk⟩ | ⟨hc, hk⟩ | ⟨hc, hk⟩ | ⟨hc, hk⟩
  all_goals
    rw [hk]
    have HC := Lib.hid hc
    clear hc hk
    have s0 := as_int_code
    have s1 := as_bool_code
    have s2 := as_fun_code
    have s3 := as_code_code
    have s4 := as_nil_code
    go_wp2_with fail
    go_ret
    exact ⟨_, by have hc := HC.out; rw [HV.out]; first | exact dec_t (by omega) | exact dec_f (by omega), rfl, HB1.out.alloc HB1.out.size _⟩
end Go.Proofs.YtdfnjfelmfccjaaDoor
/- Aid: Small facts that many texts use: lists, numbers that stay in their range, cells that an append keeps. Of no program. -/
namespace Go.Proofs.YtdfnjfelmfccjaaDoor
open Go Go.RowKit

theorem snoc_cases {α : Type} (l : List α) : l = [] ∨ ∃ l0 e, l = l0 ++ [e] := by
  rcases List.eq_nil_or_concat l with h | ⟨l0, e, h⟩
  · exact Or.inl h
  · exact Or.inr ⟨l0, e, by rw [h, List.concat_eq_append]⟩
theorem wrap_in (n : Nat) (h : n ≤ 9223372036854775807) : IntKind.i64.wrap (n : Int) = n := IntWalk.i64_in _ (by omega)
theorem wrap64_nat (n : Nat) (h : n ≤ 9223372036854775807) : wrap64 (n : Int) = n := by
  unfold wrap64
  omega

theorem keepApp {w0 w' : World} {base : Nat} {e : TypeId} {size n : Nat} {v : Value} {xs cs : List Value} {g cap : Nat} (hA : Appd w0 w' base e size v n xs cs g cap) {p : Addr} {u : Value} (h : w0.cell? p = some u) (hne : v.ownBlock ≠ some p.block) : w'.cell? p = some u :=
  (World.cell?_of_block (hA.kept p.block (World.block_lt_of_cell? w0 _ h) hne).1).trans h

theorem two_blk0 (w : World) (A B : Array Value) (tA tB : TypeId) : ((w.alloc (.cells A tA)).alloc (.cells B tB)).drew.heap[w.heap.size]? = some (.cells A tA (0, 0)) := by
  show ((w.alloc (.cells A tA)).alloc (.cells B tB)).heap[w.heap.size]? = _
  rw [Below.heap_alloc _ _ _ (by simp)]
  exact blk_new _ _
theorem two_blk1 (w : World) (A B : Array Value) (tA tB : TypeId) : ((w.alloc (.cells A tA)).alloc (.cells B tB)).drew.heap[w.heap.size + 1]? = some (.cells B tB (0, 0)) := by
  show ((w.alloc (.cells A tA)).alloc (.cells B tB)).heap[w.heap.size + 1]? = _
  have := blk_new (w.alloc (.cells A tA)) (.cells B tB)
  rwa [World.size_alloc] at this

end Go.Proofs.YtdfnjfelmfccjaaDoor
/- LoopW: Worlds with one, two, three boxes more; what the box of a loop's number says. Of no program. -/
namespace Go.Proofs.YtdfnjfelmfccjaaDoor
open Go Go.RowKit

theorem box_new (w : World) (A : Array Value) (T : TypeId) : ∃ wl : World, w.alloc (.cells A T) = wl ∧ wl.heap.size = w.heap.size + 1 ∧ Below w.heap.size w wl ∧ wl.heap[w.heap.size]? = some (.cells A T (0, 0)) :=
  ⟨_, rfl, by simp, (Below.refl _ w).alloc (Nat.le_refl _) _, blk_new _ _⟩
theorem box_new2 (w : World) (A B : Array Value) (tA tB : TypeId) : ∃ wl : World, (w.alloc (.cells A tA)).alloc (.cells B tB) = wl ∧ wl.heap.size = w.heap.size + 2 ∧ Below w.heap.size w wl ∧
    wl.heap[w.heap.size]? = some (.cells A tA (0, 0)) ∧ wl.heap[w.heap.size + 1]? = some (.cells B tB (0, 0)) := by
  have s1 : (w.alloc (.cells A tA)).heap.size = w.heap.size + 1 := by simp
  refine ⟨_, rfl, by simp, ((Below.refl _ w).alloc (Nat.le_refl _) _).alloc (by simp) _, ?_, ?_⟩
  · rw [Below.heap_alloc _ _ _ (by simp)]
    exact blk_new _ _
  · rw [← s1]
    exact blk_new _ _
theorem box_new3 (w : World) (A B D : Array Value) (tA tB tD : TypeId) : ∃ wl : World, ((w.alloc (.cells A tA)).alloc (.cells B tB)).alloc (.cells D tD) = wl ∧ wl.heap.size = w.heap.size + 3 ∧ Below w.heap.size w wl ∧
    wl.heap[w.heap.size]? = some (.cells A tA (0, 0)) ∧ wl.heap[w.heap.size + 1]? = some (.cells B tB (0, 0)) ∧ wl.heap[w.heap.size + 1 + 1]? = some (.cells D tD (0, 0)) := by
  have s1 : (w.alloc (.cells A tA)).heap.size = w.heap.size + 1 := by simp
  have s2 : ((w.alloc (.cells A tA)).alloc (.cells B tB)).heap.size = w.heap.size + 1 + 1 := by simp
  refine ⟨_, rfl, by simp, (((Below.refl _ w).alloc (Nat.le_refl _) _).alloc (by simp) _).alloc (by simp; omega) _, ?_, ?_, ?_⟩
  · rw [Below.heap_alloc _ _ _ (by simp; omega), Below.heap_alloc _ _ _ (by simp)]
    exact blk_new _ _
  · rw [Below.heap_alloc _ _ _ (by simp), ← s1]
    exact blk_new _ _
  · rw [← s2]
    exact blk_new _ _
theorem box_new4 (w : World) (A B D E : Array Value) (tA tB tD tE : TypeId) : ∃ wl : World, (((w.alloc (.cells A tA)).alloc (.cells B tB)).alloc (.cells D tD)).alloc (.cells E tE) = wl ∧ wl.heap.size = w.heap.size + 4 ∧ Below w.heap.size w wl ∧
    wl.heap[w.heap.size]? = some (.cells A tA (0, 0)) ∧ wl.heap[w.heap.size + 1]? = some (.cells B tB (0, 0)) ∧ wl.heap[w.heap.size + 1 + 1]? = some (.cells D tD (0, 0)) ∧ wl.heap[w.heap.size + 1 + 1 + 1]? = some (.cells E tE (0, 0)) := by
  obtain ⟨w3, h3, hs3, hb3, k0, k1⟩ := box_new2 w A B tA tB
  obtain ⟨w5, h5, hs5, hb5, k3, k4⟩ := box_new2 w3 D E tD tE
  refine ⟨w5, by rw [h3]; exact h5, by omega, hb3.trans (hb5.mono (by omega)), (hb5.block _ (by omega)).trans k0, (hb5.block _ (by omega)).trans k1, ?_, ?_⟩
  · rw [hs3] at k3; exact k3
  · rw [hs3] at k4; exact k4
theorem box_new5 (w : World) (A B D E F : Array Value) (tA tB tD tE tF : TypeId) : ∃ wl : World, ((((w.alloc (.cells A tA)).alloc (.cells B tB)).alloc (.cells D tD)).alloc (.cells E tE)).alloc (.cells F tF) = wl ∧ wl.heap.size = w.heap.size + 5 ∧ Below w.heap.size w wl ∧
    wl.heap[w.heap.size]? = some (.cells A tA (0, 0)) ∧ wl.heap[w.heap.size + 1]? = some (.cells B tB (0, 0)) ∧ wl.heap[w.heap.size + 1 + 1]? = some (.cells D tD (0, 0)) ∧ wl.heap[w.heap.size + 1 + 1 + 1]? = some (.cells E tE (0, 0)) ∧ wl.heap[w.heap.size + 1 + 1 + 1 + 1]? = some (.cells F tF (0, 0)) := by
  obtain ⟨w3, h3, hs3, hb3, k0, k1, k2⟩ := box_new3 w A B D tA tB tD
  obtain ⟨w5, h5, hs5, hb5, k3, k4⟩ := box_new2 w3 E F tE tF
  refine ⟨w5, by rw [h3]; exact h5, by omega, hb3.trans (hb5.mono (by omega)), (hb5.block _ (by omega)).trans k0, (hb5.block _ (by omega)).trans k1, (hb5.block _ (by omega)).trans k2, ?_, ?_⟩
  · rw [hs3] at k3; exact k3
  · rw [hs3] at k4; exact k4
end Go.Proofs.YtdfnjfelmfccjaaDoor
/- RangeD: A range over an iterator where body and iterator keep memory that they make as they go: the body's blocks are told at each moment, the iterator keeps off them, the body keeps off all else. Of no program. -/
namespace Go.Proofs.YtdfnjfelmfccjaaDoor
open Go Go.RowKit

/-- Nothing below base turns, and none of the blocks B. -/
def Keep (base : Nat) (B : Nat → Prop) (w w' : World) : Prop := Below base w w' ∧ ∀ b, B b → b < w.heap.size → w'.heap[b]? = w.heap[b]?
theorem Keep.refl (base : Nat) (B : Nat → Prop) (w : World) : Keep base B w w := ⟨Below.refl _ _, fun _ _ _ => rfl⟩
theorem Keep.trans {base : Nat} {B : Nat → Prop} {a b c : World} (h : Keep base B a b) (k : Keep base B b c) : Keep base B a c :=
  ⟨h.1.trans k.1, fun x hx hl => (k.2 x hx (Nat.lt_of_lt_of_le hl h.1.size)).trans (h.2 x hx hl)⟩
theorem Keep.of_below {base : Nat} {B : Nat → Prop} {w w' : World} (hb : base ≤ w.heap.size) (h : Below w.heap.size w w') : Keep base B w w' := ⟨h.mono hb, fun b _ hl => h.block b hl⟩
theorem Keep.mono {base base' : Nat} {B B' : Nat → Prop} {w w' : World} (h : Keep base B w w') (hb : base' ≤ base) (hB : ∀ b, B' b → B b) : Keep base' B' w w' := ⟨h.1.mono hb, fun b hb hl => h.2 b (hB b hb) hl⟩

/-- What the body's round may make of its blocks: those that it had, and new ones. -/
def Grew (B B' : Nat → Prop) (n m : Nat) : Prop := ∀ b, B' b → (B b ∨ n ≤ b) ∧ b < m
theorem Grew.refl {B : Nat → Prop} {n m : Nat} (h : ∀ b, B b → b < m) : Grew B B n m := fun b hb => ⟨Or.inl hb, h b hb⟩
theorem Grew.trans {B B' B'' : Nat → Prop} {n m n' m' : Nat} (h : Grew B B' n m) (k : Grew B' B'' n' m') (hn : n ≤ n') : Grew B B'' n m' := fun b hb => by
  obtain ⟨h1, h2⟩ := k b hb
  rcases h1 with h1 | h1
  · exact ⟨(h b h1).1, h2⟩
  · exact ⟨Or.inr (Nat.le_trans hn h1), h2⟩
theorem Grew.mono {B B' : Nat → Prop} {n n' m m' : Nat} (h : Grew B B' n m) (hn : n' ≤ n) (hm : m ≤ m') : Grew B B' n' m' := fun b hb => by
  obtain ⟨h1, h2⟩ := h b hb
  exact ⟨h1.imp id (fun h => Nat.le_trans hn h), Nat.lt_of_lt_of_le h2 hm⟩

/-- What an iterator owes: each of 'all' comes in order, until the body says no (the loop's own record counts among the blocks that its body may turn). C: what the iterator reads; the body's blocks B are none of it. N: what else the body reads: blocks (Y) of things that it was given; the iterator keeps off them, too. -/
def SeqD {α β : Type} (F : Fence) (n : Nat) (P : Program) (g : Nat) (lb : Array Value) (encs : α → Array Value) (key : α → β) (Good : α → (Nat → Prop) → World → Prop) (C : Nat → Prop) (all : List β) (w : World) : Prop :=
  ∀ (l : Nat) (J Jx : List β → (Nat → Prop) → (Nat → Prop) → World → Prop) (B0 : Nat → Prop) (W : World), Below w.heap.size w W → (∀ b, C b → ¬ B0 b) → (∀ b, B0 b → b < W.heap.size) →
    (∀ pre B N A A', J pre B N A → Keep W.heap.size (fun z => B z ∨ N z) A A' → J pre B N A') →
    (∀ pre B N A A', Jx pre B N A → Keep W.heap.size (fun z => B z ∨ N z) A A' → Jx pre B N A') →
    (∀ pre x Y B N W1, J pre B N W1 → pre ++ [key x] <+: all → Good x Y W1 → (∀ z, Y z → ¬ B z) → YieldAt F (n - 1) P l (encs x) W1 fun e W' =>
      ∃ B' N', Grew B B' W1.heap.size W'.heap.size ∧ (∀ z, N' z → N z ∨ Y z) ∧ ((e = .returned (.bool true) ∧ J (pre ++ [key x]) B' N' W' ∧ Holds B W1 W') ∨ (e = .returned (.bool false) ∧ Jx (pre ++ [key x]) B' N' W' ∧ Holds B W1 W'))) →
    J [] B0 (fun _ => False) W →
    CallsIn F n P g (#[.func (.yield l) #[] #[]] ++ lb) W fun e W' => (∃ v, e = .returned v) ∧ ((∃ B' N', J all B' N' W') ∨ ∃ pre B' N', pre <+: all ∧ Jx pre B' N' W')

/-- How a round's body may be left. -/
def postD {β : Type} (B N Y : Nat → Prop) (I : List β → (Nat → Prop) → (Nat → Prop) → World → Prop) (Ix : Code → List β → (Nat → Prop) → (Nat → Prop) → World → Prop) (xs : List β) (W : World) : Exit → Act → World → Prop
  | .normal, _, W' => ∃ B' N', Grew B B' W.heap.size W'.heap.size ∧ (∀ z, N' z → N z ∨ Y z) ∧ Holds B W W' ∧ I xs B' N' W'
  | .ret, _, W' => ∃ B' N', Grew B B' W.heap.size W'.heap.size ∧ (∀ z, N' z → N z ∨ Y z) ∧ Holds B W W' ∧ Ix .ret xs B' N' W'
  | .exit id, _, W' => ∃ B' N', Grew B B' W.heap.size W'.heap.size ∧ (∀ z, N' z → N z ∨ Y z) ∧ Holds B W W' ∧ Ix (.exit id) xs B' N' W'
  | .goto t, _, W' => ∃ B' N', Grew B B' W.heap.size W'.heap.size ∧ (∀ z, N' z → N z ∨ Y z) ∧ Holds B W W' ∧ Ix (.goto t) xs B' N' W'
  | .panic _, _, _ => False
  | .outgrown, _, _ => False

variable {F : Fence} {n : Nat} {P : Program}

/-- THE LOOP OVER SUCH AN ITERATOR. -/
theorem rangeD_law {α β : Type} {g : Operand} {ps : Array Tmp} {assign body : Code} {Q : Exit → Act → World → Prop} {a : Act} {w : World}
    (hro : F.round = none) (h1 : 1 ≤ n) {gf : Nat} {lb : Array Value} (hg : a.eval g = .func (.func gf) #[] lb) (hFg : F.fn gf) (eg : ∀ args w, (callFunc gf args).run P w = .ok (.enter gf args) w)
    {encs : α → Array Value} {key : α → β} {Good : α → (Nat → Prop) → World → Prop} {C B0 : Nat → Prop} {all : List β} (hseq : SeqD F (n - 1) P gf lb encs key Good C all w) (hps : ∀ x, (encs x).size = ps.size) (hC : ∀ b, C b → ¬ B0 b) (hCl : ∀ b, C b → b < w.heap.size) (hB0 : ∀ b, B0 b → b < w.heap.size)
    (I : List β → (Nat → Prop) → (Nat → Prop) → World → Prop) (Ix : Code → List β → (Nat → Prop) → (Nat → Prop) → World → Prop) (hI : ∀ pre B N A A', I pre B N A → Keep w.heap.size (fun z => B z ∨ N z) A A' → I pre B N A') (hIx : ∀ c pre B N A A', Ix c pre B N A → Keep w.heap.size (fun z => B z ∨ N z) A A' → Ix c pre B N A')
    (hG : ∀ x Y A A' l r, w.heap.size ≤ l → Good x Y A → A.heap[l]? = some (.loop r) → Holds (fun b => b = l) A A' → Good x Y A') (hIB : ∀ pre B N A, I pre B N A → ∀ z, B z → z < A.heap.size) (hGY : ∀ x Y A z, Good x Y A → Y z → ∃ cs T fr, A.heap[z]? = some (.cells cs T fr)) (h0 : I [] B0 (fun _ => False) w)
    (Ax : α → Nat → Act → World → Prop) (hAx : ∀ x s a' W l r o, Ax x s a' W → W.heap[l]? = some (.loop r) → Ax x s a' (W.putObj l o))
    (hassign : ∀ (l : Nat) (x : α) (Y : Nat → Prop) (W : World) (K : Act → World → Prop), Good x Y W → (∀ a' W', Below W.heap.size W W' → Ax x W.heap.size a' W' → K a' W') →
      assign.wpIn (F.inRound l) (n - 1 - 1) P (Exit.then K (fun _ _ _ => False)) { tmps := (ps.zip (encs x)).foldl (fun t (p, v) => t.setIfInBounds p v) a.tmps, defers := [] } W)
    (hbody : ∀ (l : Nat) (pre : List β) (x : α) (s : Nat) (a' : Act) (Y B N : Nat → Prop) (W : World), I pre B N W → pre ++ [key x] <+: all → Good x Y W → (∀ z, Y z → ¬ B z) → (∀ z, B z → z < s) → Ax x s a' W → (∃ r, W.heap[l]? = some (.loop r)) → ¬ B l → body.wpIn (F.inRound l) (n - 1 - 1) P (postD B N Y I Ix (pre ++ [key x]) W) a' W)
    (hdone : ∀ (D : Nat) (B N : Nat → Prop) (W : World), w.heap.size ≤ D → (∀ b, B b ∨ N b → b ≠ D) → I all B N W → W.heap[D]? = some (.deferred (some [])) → Q .normal { a with defers := { target := .collected D, args := #[] } :: a.defers } W)
    (hstop : ∀ (D : Nat) (c : Code) (pre : List β) (B N : Nat → Prop) (W : World), w.heap.size ≤ D → (∀ b, B b ∨ N b → b ≠ D) → pre <+: all → Ix c pre B N W → W.heap[D]? = some (.deferred (some [])) → c.wpIn F n P Q { a with defers := { target := .collected D, args := #[] } :: a.defers } W) :
    (Code.rangeFunc g ps assign body).wpIn F n P Q a w := by
  refine wpIn_rangeFunc (fun fn hfn => ?_)
  rw [hro]
  -- the record of the loop, in its three states
  let rec_ : LoopState → Option Code → Loop := fun st pe => { state := st, pending := pe, fn, tmps := a.tmps, params := ps, assign, body, defers := w.heap.size }
  let w1 := (w.alloc (.deferred (some []))).alloc (.loop (rec_ .ready none))
  have hs1 : w1.heap.size = w.heap.size + 2 := by simp [w1]
  have hb1 : Below w.heap.size w w1 := ((Below.refl _ w).alloc (Nat.le_refl _) _).alloc (by simp) _
  have hl1 : w1.heap[w.heap.size + 1]? = some (.loop (rec_ .ready none)) := by
    have := World.alloc_heap_new (w.alloc (.deferred (some []))) (.loop (rec_ .ready none))
    rwa [World.size_alloc] at this
  have hd1 : w1.heap[w.heap.size]? = some (.deferred (some [])) := (Below.heap_alloc _ _ _ (by simp)).trans (World.alloc_heap_new w _)
  refine ⟨w.heap.size + 1, [{ target := .collected w.heap.size, args := #[] }], w1, { target := .fn (.func gf) lb, args := #[.func (.yield (w.heap.size + 1)) #[] #[]] }, w1, gf,
    #[.func (.yield (w.heap.size + 1)) #[] #[]] ++ lb, w1, run_enterLoop_outer _ _ _ _ _, by simp only [resolve, hg]; simp [go_sem], fun f' hf' => by simp [Target.leads] at hf'; subst hf'; exact hFg, by simp [invoke, go_sem, eg], fun _ => h1, ?_⟩
  have still : ∀ {B : Nat → Prop} {A A' : World} {k : Nat} {o : Obj}, Keep w1.heap.size B A A' → k < w1.heap.size → A.heap[k]? = some o → A'.heap[k]? = some o := fun hb hk h => (hb.1.block _ hk).trans h
  refine (hseq (w.heap.size + 1)
    (fun pre B N W => ∃ B1 : Nat → Prop, (∀ z, B z ↔ B1 z ∨ z = w.heap.size + 1) ∧ I pre B1 N W ∧ W.heap[w.heap.size + 1]? = some (.loop (rec_ .ready none)) ∧ W.heap[w.heap.size]? = some (.deferred (some [])) ∧ ∀ b, B1 b ∨ N b → b < w.heap.size ∨ w.heap.size + 2 ≤ b)
    (fun pre B N W => ∃ (B1 : Nat → Prop) (c : Code), (∀ z, B z ↔ B1 z ∨ z = w.heap.size + 1) ∧ Ix c pre B1 N W ∧ W.heap[w.heap.size + 1]? = some (.loop (rec_ .done (some c))) ∧ W.heap[w.heap.size]? = some (.deferred (some [])) ∧ ∀ b, B1 b ∨ N b → b < w.heap.size ∨ w.heap.size + 2 ≤ b)
    (fun z => B0 z ∨ z = w.heap.size + 1) w1 hb1 (fun b hb h => h.elim (hC b hb) (fun e => by have := hCl b hb; omega)) (fun b hb => hb.elim (fun hb => by have := hB0 b hb; omega) (fun e => by omega)) (fun pre B N A A' h hb => by
      obtain ⟨B1, h0, h1, h2, h3, h4⟩ := h
      exact ⟨B1, h0, hI pre B1 N A A' h1 (hb.mono (by omega) (fun z h => h.imp (fun h => (h0 z).2 (Or.inl h)) id)), still hb (by omega) h2, still hb (by omega) h3, h4⟩) (fun pre B N A A' h hb => by
      obtain ⟨B1, c, h0, h1, h2, h3, h4⟩ := h
      exact ⟨B1, c, h0, hIx c pre B1 N A A' h1 (hb.mono (by omega) (fun z h => h.imp (fun h => (h0 z).2 (Or.inl h)) id)), still hb (by omega) h2, still hb (by omega) h3, h4⟩) ?_ ⟨B0, fun _ => Iff.rfl, hI _ _ _ _ _ h0 (.of_below (Nat.le_refl _) hb1), hl1, hd1, fun b hb => Or.inl (hb.elim (hB0 b) False.elim)⟩).mono ?_
  · -- one round
    rintro pre x Y BL N W ⟨B, hBe, hi, hl, hd, hBl⟩ hpre hgood hYB0
    have hYB : ∀ z, Y z → ¬ B z := fun z hz hb => hYB0 z hz ((hBe z).2 (Or.inl hb))
    have hy := run_yield (P := P) (args := encs x) hl (hps x)
    refine ⟨fn, _, assign, body, hy, roundIn_of_wpIn hfn (hassign _ x Y W _ hgood (fun a' Wa hba hax => ?_))⟩
    have hlt : w.heap.size + 1 < W.heap.size := (Array.getElem?_eq_some_iff.1 hl).1
    have hla : Wa.heap[w.heap.size + 1]? = some (.loop (rec_ .ready none)) := (hba.block _ hlt).trans hl
    have hda : Wa.heap[w.heap.size]? = some (.deferred (some [])) := (hba.block _ (by omega)).trans hd
    refine ⟨_, run_beginRound hla rfl, ?_⟩
    have hlta : w.heap.size + 1 < Wa.heap.size := (Array.getElem?_eq_some_iff.1 hla).1
    let busy : Loop := { rec_ .ready none with state := .busy }
    let Wb := Wa.putObj (w.heap.size + 1) (.loop busy)
    have hbb : Below w.heap.size Wa Wb := below_putObj _ _ _ _ (by omega)
    have hlb : Wb.heap[w.heap.size + 1]? = some (.loop busy) := World.putObj_heap_same hlta
    have hdb : Wb.heap[w.heap.size]? = some (.deferred (some [])) := (World.putObj_heap_other (by omega)).trans hda
    have hszb : Wb.heap.size = Wa.heap.size := by simp [Wb]
    have hwa := hba.size
    have hkw : Keep w.heap.size (fun z => B z ∨ N z) W Wb := ⟨(hba.mono (Nat.le_of_lt (by omega : w.heap.size < W.heap.size))).trans hbb, fun b hb hl' => by
      rw [World.putObj_heap_other (by have := hBl b hb; omega)]
      exact hba.block b hl'⟩
    have hol : Holds (fun b => b = w.heap.size + 1) W Wb := ⟨by omega, fun b hb hc => by rw [World.putObj_heap_other hc]; exact hba.block b hb⟩
    have hnl : ¬ B (w.heap.size + 1) := fun h => by have := hBl _ (Or.inl h); omega
    have hnd : ¬ B w.heap.size := fun h => by have := hBl _ (Or.inl h); omega
    refine wpIn_mono (hbody _ pre x W.heap.size a' Y B N Wb (hI _ _ _ _ _ hi hkw) hpre (hG _ _ _ _ _ _ (Nat.le_succ _) hgood hl hol) hYB (hIB _ _ _ _ hi) (hAx _ _ _ _ _ _ _ hax hla) ⟨_, hlb⟩ hnl) ?_
    have fin : ∀ (jump : Option Code) (W3 : World), Holds B Wb W3 →
        (Instr.endRound (w.heap.size + 1) jump).run P W3 = .ok (.bool jump.isNone) (W3.putObj (w.heap.size + 1) (.loop (rec_ (if jump.isNone then .ready else .done) jump))) ∧
        Below w.heap.size W3 (W3.putObj (w.heap.size + 1) (.loop (rec_ (if jump.isNone then .ready else .done) jump))) ∧
        (W3.putObj (w.heap.size + 1) (.loop (rec_ (if jump.isNone then .ready else .done) jump))).heap[w.heap.size + 1]? = some (.loop (rec_ (if jump.isNone then .ready else .done) jump)) ∧
        (W3.putObj (w.heap.size + 1) (.loop (rec_ (if jump.isNone then .ready else .done) jump))).heap[w.heap.size]? = some (.deferred (some [])) := fun jump W3 hk => by
      have hwb : Wb.heap.size = Wa.heap.size := by simp [Wb]
      have h3 : W3.heap[w.heap.size + 1]? = some (.loop busy) := (hk.2 _ (by omega) hnl).trans hlb
      have hd3 : W3.heap[w.heap.size]? = some (.deferred (some [])) := (hk.2 _ (by omega) hnd).trans hdb
      exact ⟨run_endRound (P := P) jump h3, below_putObj _ _ _ _ (by omega), World.putObj_heap_same (Array.getElem?_eq_some_iff.1 h3).1, (World.putObj_heap_other (by omega)).trans hd3⟩
    have bl' : ∀ (B' N' : Nat → Prop) (m : Nat), Grew B B' Wb.heap.size m → (∀ z, N' z → N z ∨ Y z) → ∀ b, B' b ∨ N' b → b < w.heap.size ∨ w.heap.size + 2 ≤ b := fun B' N' m hg hN b hb => by
      rcases hb with hb | hb
      · rcases (hg b hb).1 with h1 | h1
        · exact hBl b (Or.inl h1)
        · exact Or.inr (by omega)
      · rcases hN b hb with h1 | h1
        · exact hBl b (Or.inr h1)
        · obtain ⟨cs, T, fr, hc⟩ := hGY x Y W b hgood h1
          by_cases e1 : b = w.heap.size
          · subst e1; rw [hd] at hc; cases hc
          · by_cases e2 : b = w.heap.size + 1
            · subst e2; rw [hl] at hc; cases hc
            · omega
    have gw : ∀ (B' : Nat → Prop) (W3 : World) (o : Obj), Holds B Wb W3 → Grew B B' Wb.heap.size W3.heap.size → Grew BL (fun z => B' z ∨ z = w.heap.size + 1) W.heap.size (W3.putObj (w.heap.size + 1) o).heap.size := fun B' W3 o hk hg b hb => by
      have hk1 := hk.1
      rcases hb with hb | rfl
      · obtain ⟨h1, h2⟩ := hg b hb
        exact ⟨h1.imp (fun h => (hBe b).2 (Or.inl h)) (fun h => by omega), by simpa using h2⟩
      · exact ⟨Or.inl ((hBe _).2 (Or.inr rfl)), by simp; omega⟩
    have hold : ∀ (W3 : World) (o : Obj), Holds B Wb W3 → Holds BL W (W3.putObj (w.heap.size + 1) o) := fun W3 o hk => by
      have hk1 := hk.1
      refine ⟨by simp; omega, fun b hb hc => ?_⟩
      have e : b ≠ w.heap.size + 1 := fun e => hc ((hBe b).2 (Or.inr e))
      rw [World.putObj_heap_other e, hk.2 b (by omega) (fun h => hc ((hBe b).2 (Or.inl h))), World.putObj_heap_other e, hba.block b hb]
    rintro e a3 W3 hp
    cases e with
    | normal =>
      obtain ⟨B', N', hgr, hN, hk, hi3⟩ := hp
      obtain ⟨hr, hb3, hl3, hd3⟩ := fin none W3 hk
      have hBl' := bl' B' N' _ hgr hN
      exact ⟨_, _, hr, fun z => B' z ∨ z = w.heap.size + 1, N', gw B' _ _ hk hgr, hN, .inl ⟨rfl, ⟨B', fun _ => Iff.rfl, hI _ _ _ _ _ hi3 ⟨hb3, fun b hb _ => World.putObj_heap_other (by have := hBl' b hb; omega)⟩, hl3, hd3, hBl'⟩, hold W3 _ hk⟩⟩
    | ret =>
      obtain ⟨B', N', hgr, hN, hk, hi3⟩ := hp
      obtain ⟨hr, hb3, hl3, hd3⟩ := fin (some .ret) W3 hk
      have hBl' := bl' B' N' _ hgr hN
      exact ⟨_, _, hr, fun z => B' z ∨ z = w.heap.size + 1, N', gw B' _ _ hk hgr, hN, .inr ⟨rfl, ⟨B', _, fun _ => Iff.rfl, hIx _ _ _ _ _ _ hi3 ⟨hb3, fun b hb _ => World.putObj_heap_other (by have := hBl' b hb; omega)⟩, hl3, hd3, hBl'⟩, hold W3 _ hk⟩⟩
    | exit id =>
      obtain ⟨B', N', hgr, hN, hk, hi3⟩ := hp
      obtain ⟨hr, hb3, hl3, hd3⟩ := fin (some (.exit id)) W3 hk
      have hBl' := bl' B' N' _ hgr hN
      exact ⟨_, _, hr, fun z => B' z ∨ z = w.heap.size + 1, N', gw B' _ _ hk hgr, hN, .inr ⟨rfl, ⟨B', _, fun _ => Iff.rfl, hIx _ _ _ _ _ _ hi3 ⟨hb3, fun b hb _ => World.putObj_heap_other (by have := hBl' b hb; omega)⟩, hl3, hd3, hBl'⟩, hold W3 _ hk⟩⟩
    | goto t =>
      obtain ⟨B', N', hgr, hN, hk, hi3⟩ := hp
      obtain ⟨hr, hb3, hl3, hd3⟩ := fin (some (.goto t)) W3 hk
      have hBl' := bl' B' N' _ hgr hN
      exact ⟨_, _, hr, fun z => B' z ∨ z = w.heap.size + 1, N', gw B' _ _ hk hgr, hN, .inr ⟨rfl, ⟨B', _, fun _ => Iff.rfl, hIx _ _ _ _ _ _ hi3 ⟨hb3, fun b hb _ => World.putObj_heap_other (by have := hBl' b hb; omega)⟩, hl3, hd3, hBl'⟩, hold W3 _ hk⟩⟩
    | panic ch => exact hp.elim
    | outgrown => exact hp.elim
  · -- the iterator has returned
    rintro e W2 ⟨⟨v, rfl⟩, (⟨BL, N', B', hBe, hi, hl, hd, hBl⟩ | ⟨pre, BL, N', hpre, B', c, hBe, hi, hl, hd, hBl⟩)⟩
    · exact ⟨none, _, run_endLoop (P := P) hl (by simp [rec_]), hdone _ B' N' _ (Nat.le_refl _) (fun b hb e => by have := hBl b hb; omega) (hI _ _ _ _ _ hi ⟨below_putObj _ _ _ _ (by omega), fun b hb _ => World.putObj_heap_other (by have := hBl b hb; omega)⟩) ((World.putObj_heap_other (by omega)).trans hd)⟩
    · exact ⟨some c, _, run_endLoop (P := P) hl (by simp [rec_]), hstop _ c pre B' N' _ (Nat.le_refl _) (fun b hb e => by have := hBl b hb; omega) hpre (hIx _ _ _ _ _ _ hi ⟨below_putObj _ _ _ _ (by omega), fun b hb _ => World.putObj_heap_other (by have := hBl b hb; omega)⟩) ((World.putObj_heap_other (by omega)).trans hd)⟩
end Go.Proofs.YtdfnjfelmfccjaaDoor
