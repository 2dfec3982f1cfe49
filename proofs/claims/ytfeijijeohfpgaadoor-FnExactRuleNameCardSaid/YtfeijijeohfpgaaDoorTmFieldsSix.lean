/-
  The contract of the model's l5Fields: one sort of kinds.
-/
import Derived.Test.YtfeijijeohfpgaaDoorTmFields0
namespace Go.Proofs.YtfeijijeohfpgaaDoor
open Go Go.RowKit

set_option maxRecDepth 100000 in
set_option maxHeartbeats 8000000 in
theorem fieldsSSix {C : Nat → Prop} (t : Tm) (tp : Option Addr) (tc : Nat) (rp : Option Addr) (rc : Nat) (p : Option Addr) (c : Nat) (w : World) (hT : TM' w C t tp tc rp rc p c) (hn : t.wt ≤ 2097152) (k : t.kind = 6) :
    Calls Tryd.prog 55 #[tmV t tp tc rp rc p c] w (Tells t.FieldsOk w) := by
  have hw := t.wt_eq
  have n1 : nodesS t.ty.args ≤ 2097152 := by omega
  have n2 : nodesS t.res.args ≤ 2097152 := by omega
  have HB := Lib.hid (al_below w (.cells (tmC t tp tc rp rc p c) 35))
  have HX := Lib.hid (Bx9.new w t tp tc rp rc p c 35)
  have HTY := Lib.hid (fun (W : World) (hW : Below w.heap.size w W) => (⟨_, rfl, hT.ty.keep hW⟩ : TT W C t.ty (.agg #[.int .i64 t.ty.kind, .slice tp t.ty.args.length tc])))
  have HRS := Lib.hid (fun (W : World) (hW : Below w.heap.size w W) => (⟨_, rfl, hT.res.keep hW⟩ : TT W C t.res (.agg #[.int .i64 t.res.kind, .slice rp t.res.args.length rc])))
  have HNM := Lib.hid (fun W => namesS_any t tp tc rp rc p c W (by omega) (by omega))
  clear hT hw hn
  cases hvt : t.ty.valid
  all_goals
    cases hvr : t.res.valid
  all_goals
    have HVT := Lib.hid hvt
    have HVR0 := Lib.hid hvr
    have HVTC := Lib.hid (fun W hW => valid_lit (HTY.out W hW) n1 _ HVT.out)
    have HVRC := Lib.hid (fun W hW => valid_lit (HRS.out W hW) n2 _ HVR0.out)
    clear hvt hvr
  all_goals
    go_enter Tryd.func55, Tryd.ntmps55
  · have HK := Lib.hid k
    have ka := Int.le_of_eq k
    have kb := Int.le_of_eq k.symm
    have e9 : (t.kind == 9) = false := by simp [k]
    have n9 : (t.kind != 9) = true := by simp [k]
    have e6 : (t.kind == 6) = true := by simp [k]
    clear k ka kb
    go_wp2_with fail
    refine (HVTC.out _ HB.out).mono ?_
    rintro e w1 ⟨rfl, hb1⟩
    have HB1 := Lib.hid (HB.out.trans (hb1.mono HB.out.size))
    have HX1 := Lib.hid (HX.out.keep hb1)
    obtain ⟨g0, g1, g2, g3, g4, g5, g6, g7, g8⟩ := HX.out.keep hb1
    clear hb1
    go_wp2_with fail
    go_ret
    exact ⟨_, lit_f (fun h => by have := h.ty1.1 (Or.inl HK.out); rw [HVT.out] at this; cases this), rfl, HB1.out⟩
  · have HK := Lib.hid k
    have ka := Int.le_of_eq k
    have kb := Int.le_of_eq k.symm
    have e9 : (t.kind == 9) = false := by simp [k]
    have n9 : (t.kind != 9) = true := by simp [k]
    have e6 : (t.kind == 6) = true := by simp [k]
    clear k ka kb
    go_wp2_with fail
    refine (HVTC.out _ HB.out).mono ?_
    rintro e w1 ⟨rfl, hb1⟩
    have HB1 := Lib.hid (HB.out.trans (hb1.mono HB.out.size))
    have HX1 := Lib.hid (HX.out.keep hb1)
    obtain ⟨g0, g1, g2, g3, g4, g5, g6, g7, g8⟩ := HX.out.keep hb1
    clear hb1
    go_wp2_with fail
    go_ret
    exact ⟨_, lit_f (fun h => by have := h.ty1.1 (Or.inl HK.out); rw [HVT.out] at this; cases this), rfl, HB1.out⟩
  · have HK := Lib.hid k
    have ka := Int.le_of_eq k
    have kb := Int.le_of_eq k.symm
    have e9 : (t.kind == 9) = false := by simp [k]
    have n9 : (t.kind != 9) = true := by simp [k]
    have e6 : (t.kind == 6) = true := by simp [k]
    clear k ka kb
    go_wp2_with fail
    refine (HVTC.out _ HB.out).mono ?_
    rintro e w1 ⟨rfl, hb1⟩
    have HB1 := Lib.hid (HB.out.trans (hb1.mono HB.out.size))
    have HX1 := Lib.hid (HX.out.keep hb1)
    obtain ⟨g0, g1, g2, g3, g4, g5, g6, g7, g8⟩ := HX.out.keep hb1
    clear hb1
    have HVR := Lib.hid (HVRC.out w1.drew HB1.out.drew)
    by_cases z2 : t.res.kind = 0 ∧ t.res.args.length = 0
    · have HZ2 := Lib.hid z2
      have HZC := Lib.hid (fun W => zeroS_yes (p := rp) (c := rc) z2 W)
      clear z2
      go_wp2_with fail
      go_region_held3 (fun w' => w'.cell? ⟨w.heap.size, 0, none⟩ = some (.int .i64 t.kind) ∧ w'.cell? ⟨w.heap.size, 6, none⟩ = some (.int .i64 t.res.kind) ∧ w'.cell? ⟨w.heap.size, 7, none⟩ = some (.slice rp t.res.args.length rc) ∧ Below w.heap.size w w')
        (first
          | (go_keep; done)
          | exact ⟨g0, g6, g7, HB1.out.drew⟩
          | exact keepR hb6 (by assumption)
          | exact keepR hb5 (by assumption))
        (first
          | (go_at_call 80; refine HVR.out.mono ?_; rintro e w5 ⟨rfl, hb5⟩)
          | (go_at_call 81; refine (HZC.out _).mono ?_; rintro e w6 ⟨rfl, hb6⟩))
      rename_i hH
      clear hH
      have hbd : Below w1.heap.size w1 _ := ((Below.refl _ _).drew.trans hb5).trans (hb6.mono (by have := hb5.size; exact this))
      have HBW := Lib.hid (HB1.out.trans (hbd.mono HB1.out.size))
      clear g0 g1 g2 g3 g4 g5 g6 g7 g8
      obtain ⟨g0, g1, g2, g3, g4, g5, g6, g7, g8⟩ := HX1.out.keep hbd
      clear hbd hb5 hb6
      by_cases hin : 0 ≤ t.n ∧ t.n ≤ 0
      · have hd : decide (0 ≤ t.n ∧ t.n ≤ 0) = true := decide_eq_true hin
        have HIN := Lib.hid hin
        clear hin
        go_wp2_with fail
        refine (in_any _ _ _ _).mono ?_
        rintro e w' ⟨rfl, rfl⟩
        go_wp2_with fail
        refine (HNM.out _).mono ?_
        rintro e w9 ⟨r, hr, rfl, hb9⟩
        have HR9 := Lib.hid hr
        have HB9 := Lib.hid (HBW.out.trans (hb9.mono HBW.out.size))
        clear hr hb9
        go_wp2_with fail
        go_ret
        exact ⟨_, HR9.out.trans ⟨fun h => ⟨⟨fun _ => HVT.out, fun _ => Or.inl HK.out⟩, Or.inl (Or.inl HK.out), ⟨(fun e => by have := HK.out; omega), fun e => by rw [HVR0.out] at e; cases e⟩, Or.inr HZ2.out, by rw [Tm.most, if_neg (by have := HK.out; omega), if_neg (by have := HK.out; omega)]; exact HIN.out, h⟩, fun h => h.names⟩, rfl, HB9.out⟩
      · have hd : decide (0 ≤ t.n ∧ t.n ≤ 0) = false := decide_eq_false hin
        have HIN := Lib.hid hin
        clear hin
        go_wp2_with fail
        refine (in_any _ _ _ _).mono ?_
        rintro e w' ⟨rfl, rfl⟩
        go_wp2_with fail
        go_ret
        exact ⟨_, lit_f (fun h => HIN.out (by have := h.n; rwa [Tm.most, if_neg (by have := HK.out; omega), if_neg (by have := HK.out; omega)] at this)), rfl, HBW.out⟩
    · have HZ2 := Lib.hid z2
      have HZC := Lib.hid (fun W => zeroS_no (p := rp) (c := rc) z2 W)
      clear z2
      go_wp2_with fail
      go_region_held3 (fun w' => w'.cell? ⟨w.heap.size, 0, none⟩ = some (.int .i64 t.kind) ∧ w'.cell? ⟨w.heap.size, 6, none⟩ = some (.int .i64 t.res.kind) ∧ w'.cell? ⟨w.heap.size, 7, none⟩ = some (.slice rp t.res.args.length rc) ∧ Below w.heap.size w w')
        (first
          | (go_keep; done)
          | exact ⟨g0, g6, g7, HB1.out.drew⟩
          | exact keepR hb6 (by assumption)
          | exact keepR hb5 (by assumption))
        (first
          | (go_at_call 80; refine HVR.out.mono ?_; rintro e w5 ⟨rfl, hb5⟩)
          | (go_at_call 81; refine (HZC.out _).mono ?_; rintro e w6 ⟨rfl, hb6⟩))
      rename_i hH
      clear hH
      have hbd : Below w1.heap.size w1 _ := ((Below.refl _ _).drew.trans hb5).trans (hb6.mono (by have := hb5.size; exact this))
      have HBW := Lib.hid (HB1.out.trans (hbd.mono HB1.out.size))
      clear g0 g1 g2 g3 g4 g5 g6 g7 g8
      obtain ⟨g0, g1, g2, g3, g4, g5, g6, g7, g8⟩ := HX1.out.keep hbd
      clear hbd hb5 hb6
      go_wp2_with fail
      go_ret
      exact ⟨_, lit_f (fun h => h.res2.elim (fun e => by have := HK.out; omega) HZ2.out), rfl, HBW.out⟩
  · have HK := Lib.hid k
    have ka := Int.le_of_eq k
    have kb := Int.le_of_eq k.symm
    have e9 : (t.kind == 9) = false := by simp [k]
    have n9 : (t.kind != 9) = true := by simp [k]
    have e6 : (t.kind == 6) = true := by simp [k]
    clear k ka kb
    go_wp2_with fail
    refine (HVTC.out _ HB.out).mono ?_
    rintro e w1 ⟨rfl, hb1⟩
    have HB1 := Lib.hid (HB.out.trans (hb1.mono HB.out.size))
    have HX1 := Lib.hid (HX.out.keep hb1)
    obtain ⟨g0, g1, g2, g3, g4, g5, g6, g7, g8⟩ := HX.out.keep hb1
    clear hb1
    have HVR := Lib.hid (HVRC.out w1.drew HB1.out.drew)
    go_wp2_with fail
    refine wp_region_noPanic ?_
    refine wp_region_held_drew (S := (fun w' => w'.cell? ⟨w.heap.size, 0, none⟩ = some (.int .i64 t.kind) ∧ w'.cell? ⟨w.heap.size, 6, none⟩ = some (.int .i64 t.res.kind) ∧ w'.cell? ⟨w.heap.size, 7, none⟩ = some (.slice rp t.res.args.length rc) ∧ Below w.heap.size w w')) (by kernel_rfl) ?_ (fun hHeld => ?_)
    · try dsimp only
      exact ⟨g0, g6, g7, HB1.out.drew⟩
    refine wpAnyH_take (i := 0) (oi := ({ dst := some 28, op := Op.fieldAddr 35 (Operand.tmp 1) 0, type := 0, pos := "l05_term.go:67", after := #[], guard := none } : Oper)) (v := ?_) rfl (by kernel_rfl) (by kernel_rfl) (by kernel_rfl) (fun _ _ _ h => h) (Or.inl ⟨by rfl, ?_⟩) (by assumption) ?_
    rotate_left
    · intro w hSw
      try dsimp only at hSw
      go_simp
      try with_reducible rfl
    try simp only [Act.put, List.setIfInBounds_toArray, List.set_cons_zero, List.set_cons_succ]
    refine wpAnyH_take (i := 1) (oi := ({ dst := some 29, op := Op.load 3 (Operand.tmp 28), type := 3, pos := "l05_term.go:67", after := #[{ on := 0, ground := Ground.data }], guard := none } : Oper)) (v := ?_) rfl (by kernel_rfl) (by kernel_rfl) (by kernel_rfl) (fun _ _ _ h => h) (Or.inl ⟨by rfl, ?_⟩) (by assumption) ?_
    rotate_left
    · intro w hSw
      try dsimp only at hSw
      go_simp
      try with_reducible rfl
    try simp only [Act.put, List.setIfInBounds_toArray, List.set_cons_zero, List.set_cons_succ]
    refine wpAnyH_take (i := 2) (oi := ({ dst := some 30, op := Op.binOp BinOp.eql 3 (Operand.tmp 29) (Operand.const (Value.int IntKind.i64 9)) 3, type := 4, pos := "l05_term.go:67", after := #[{ on := 1, ground := Ground.data }], guard := none } : Oper)) (v := ?_) rfl (by kernel_rfl) (by kernel_rfl) (by kernel_rfl) (fun _ _ _ h => h) (Or.inl ⟨by rfl, ?_⟩) (by assumption) ?_
    rotate_left
    · intro w hSw
      try dsimp only at hSw
      go_simp
      try with_reducible rfl
    try simp only [Act.put, List.setIfInBounds_toArray, List.set_cons_zero, List.set_cons_succ]
    refine wpAnyH_take (i := 3) (oi := ({ dst := some 31, op := Op.fieldAddr 35 (Operand.tmp 1) 5, type := 0, pos := "l05_term.go:67", after := #[], guard := none } : Oper)) (v := ?_) rfl (by kernel_rfl) (by kernel_rfl) (by kernel_rfl) (fun _ _ _ h => h) (Or.inl ⟨by rfl, ?_⟩) (by assumption) ?_
    rotate_left
    · intro w hSw
      try dsimp only at hSw
      go_simp
      try with_reducible rfl
    try simp only [Act.put, List.setIfInBounds_toArray, List.set_cons_zero, List.set_cons_succ]
    refine wpAnyH_take (i := 4) (oi := ({ dst := some 32, op := Op.load 32 (Operand.tmp 31), type := 32, pos := "l05_term.go:67", after := #[{ on := 3, ground := Ground.data }], guard := none } : Oper)) (v := ?_) rfl (by kernel_rfl) (by kernel_rfl) (by kernel_rfl) (fun _ _ _ h => h) (Or.inl ⟨by rfl, ?_⟩) (by assumption) ?_
    rotate_left
    · intro w hSw
      try dsimp only at hSw
      go_simp
      try with_reducible rfl
    try simp only [Act.put, List.setIfInBounds_toArray, List.set_cons_zero, List.set_cons_succ]
    refine wpAnyH_ready (rs := [5]) (by kernel_rfl) (by simp) ?_
    refine AllReadyH.cons (o := ({ dst := some 33, op := Op.call { callee := Callee.value (Operand.func 80), args := #[Operand.tmp 32], argTypes := #[32] }, type := 4, pos := "l05_term.go:67", after := #[{ on := 4, ground := Ground.data }], guard := none } : Oper)) rfl (fun K hK => ?_) AllReadyH.nil
    go_simp
    (go_at_call 80; refine HVR.out.mono ?_; rintro e w5 ⟨rfl, hb5⟩)
    refine hK.out _ _ ?_ (fun hHeld1 => ?_)
    · try dsimp only
      exact keepR hb5 (by assumption)
    clear hK K
    try simp only [Act.put, List.setIfInBounds_toArray, List.set_cons_zero, List.set_cons_succ]
    refine wpAnyH_take (i := 6) (oi := ({ dst := some 34, op := Op.binOp BinOp.neq 4 (Operand.tmp 30) (Operand.tmp 33) 4, type := 4, pos := "l05_term.go:67", after := #[{ on := 2, ground := Ground.data }, { on := 5, ground := Ground.data }], guard := none } : Oper)) (v := ?_) rfl (by kernel_rfl) (by kernel_rfl) (by kernel_rfl) (fun _ _ _ h => h) (Or.inl ⟨by rfl, ?_⟩) (by assumption) ?_
    rotate_left
    · intro w hSw
      try dsimp only at hSw
      go_simp
      try with_reducible rfl
    try simp only [Act.put, List.setIfInBounds_toArray, List.set_cons_zero, List.set_cons_succ]
    refine wpAnyH_take (i := 7) (oi := ({ dst := some 35, op := Op.move (Operand.tmp 34), type := 4, pos := "l05_term.go:67", after := #[{ on := 6, ground := Ground.data }, { on := 5, ground := Ground.chain }], guard := none } : Oper)) (v := ?_) rfl (by kernel_rfl) (by kernel_rfl) (by kernel_rfl) (fun _ _ _ h => h) (Or.inl ⟨by rfl, ?_⟩) (by assumption) ?_
    rotate_left
    · intro w hSw
      try dsimp only at hSw
      go_simp
      try with_reducible rfl
    try simp only [Act.put, List.setIfInBounds_toArray, List.set_cons_zero, List.set_cons_succ]
    refine wpAnyH_take (i := 8) (oi := ({ dst := some 36, op := Op.fieldAddr 35 (Operand.tmp 1) 0, type := 0, pos := "l05_term.go:67", after := #[{ on := 7, ground := Ground.guard }], guard := some (7, false) } : Oper)) (v := undef) rfl (by kernel_rfl) (by kernel_rfl) (by kernel_rfl) (fun _ _ _ h => h) (Or.inr ⟨by rfl, rfl⟩) (by assumption) ?_
    try simp only [Act.put, List.setIfInBounds_toArray, List.set_cons_zero, List.set_cons_succ]
    refine wpAnyH_take (i := 9) (oi := ({ dst := some 37, op := Op.load 3 (Operand.tmp 36), type := 3, pos := "l05_term.go:67", after := #[{ on := 8, ground := Ground.data }, { on := 7, ground := Ground.guard }], guard := some (7, false) } : Oper)) (v := undef) rfl (by kernel_rfl) (by kernel_rfl) (by kernel_rfl) (fun _ _ _ h => h) (Or.inr ⟨by rfl, rfl⟩) (by assumption) ?_
    try simp only [Act.put, List.setIfInBounds_toArray, List.set_cons_zero, List.set_cons_succ]
    refine wpAnyH_take (i := 10) (oi := ({ dst := some 38, op := Op.binOp BinOp.neq 3 (Operand.tmp 37) (Operand.const (Value.int IntKind.i64 9)) 3, type := 4, pos := "l05_term.go:67", after := #[{ on := 9, ground := Ground.data }, { on := 7, ground := Ground.guard }], guard := some (7, false) } : Oper)) (v := undef) rfl (by kernel_rfl) (by kernel_rfl) (by kernel_rfl) (fun _ _ _ h => h) (Or.inr ⟨by rfl, rfl⟩) (by assumption) ?_
    try simp only [Act.put, List.setIfInBounds_toArray, List.set_cons_zero, List.set_cons_succ]
    refine wpAnyH_take (i := 11) (oi := ({ dst := some 39, op := Op.move (Operand.tmp 38), type := 4, pos := "l05_term.go:67", after := #[{ on := 10, ground := Ground.data }, { on := 7, ground := Ground.chain }, { on := 7, ground := Ground.guard }], guard := some (7, false) } : Oper)) (v := undef) rfl (by kernel_rfl) (by kernel_rfl) (by kernel_rfl) (fun _ _ _ h => h) (Or.inr ⟨by rfl, rfl⟩) (by assumption) ?_
    try simp only [Act.put, List.setIfInBounds_toArray, List.set_cons_zero, List.set_cons_succ]
    refine wpAnyH_take (i := 12) (oi := ({ dst := some 40, op := Op.fieldAddr 35 (Operand.tmp 1) 5, type := 0, pos := "l05_term.go:67", after := #[{ on := 11, ground := Ground.guard }], guard := some (11, true) } : Oper)) (v := undef) rfl (by kernel_rfl) (by kernel_rfl) (by kernel_rfl) (fun _ _ _ h => h) (Or.inr ⟨by rfl, rfl⟩) (by assumption) ?_
    try simp only [Act.put, List.setIfInBounds_toArray, List.set_cons_zero, List.set_cons_succ]
    refine wpAnyH_take (i := 13) (oi := ({ dst := some 41, op := Op.load 32 (Operand.tmp 40), type := 32, pos := "l05_term.go:67", after := #[{ on := 12, ground := Ground.data }, { on := 11, ground := Ground.guard }], guard := some (11, true) } : Oper)) (v := undef) rfl (by kernel_rfl) (by kernel_rfl) (by kernel_rfl) (fun _ _ _ h => h) (Or.inr ⟨by rfl, rfl⟩) (by assumption) ?_
    try simp only [Act.put, List.setIfInBounds_toArray, List.set_cons_zero, List.set_cons_succ]
    refine wpAnyH_take (i := 14) (oi := ({ dst := some 42, op := Op.call { callee := Callee.value (Operand.func 81), args := #[Operand.tmp 41], argTypes := #[32] }, type := 4, pos := "l05_term.go:67", after := #[{ on := 13, ground := Ground.data }, { on := 11, ground := Ground.chain }, { on := 11, ground := Ground.guard }], guard := some (11, true) } : Oper)) (v := undef) rfl (by kernel_rfl) (by kernel_rfl) (by kernel_rfl) (fun _ _ _ h => h) (Or.inr ⟨by rfl, rfl⟩) (by assumption) ?_
    try simp only [Act.put, List.setIfInBounds_toArray, List.set_cons_zero, List.set_cons_succ]
    refine wpAnyH_take (i := 15) (oi := ({ dst := some 43, op := Op.unOp UnOp.not 4 (Operand.tmp 42), type := 4, pos := "l05_term.go:67", after := #[{ on := 14, ground := Ground.data }, { on := 11, ground := Ground.guard }], guard := some (11, true) } : Oper)) (v := undef) rfl (by kernel_rfl) (by kernel_rfl) (by kernel_rfl) (fun _ _ _ h => h) (Or.inr ⟨by rfl, rfl⟩) (by assumption) ?_
    try simp only [Act.put, List.setIfInBounds_toArray, List.set_cons_zero, List.set_cons_succ]
    refine wpAnyH_take (i := 16) (oi := ({ dst := some 44, op := Op.pick (Operand.tmp 39) (Operand.tmp 43) (Operand.const (Value.bool false)), type := 4, pos := "l05_term.go:67", after := #[{ on := 11, ground := Ground.data }, { on := 15, ground := Ground.data }, { on := 7, ground := Ground.guard }], guard := some (7, false) } : Oper)) (v := undef) rfl (by kernel_rfl) (by kernel_rfl) (by kernel_rfl) (fun _ _ _ h => h) (Or.inr ⟨by rfl, rfl⟩) (by assumption) ?_
    try simp only [Act.put, List.setIfInBounds_toArray, List.set_cons_zero, List.set_cons_succ]
    refine wpAnyH_take (i := 17) (oi := ({ dst := some 45, op := Op.pick (Operand.tmp 35) (Operand.const (Value.bool true)) (Operand.tmp 44), type := 4, pos := "l05_term.go:67", after := #[{ on := 7, ground := Ground.data }, { on := 16, ground := Ground.data }], guard := none } : Oper)) (v := ?_) rfl (by kernel_rfl) (by kernel_rfl) (by kernel_rfl) (fun _ _ _ h => h) (Or.inl ⟨by rfl, ?_⟩) (by assumption) ?_
    rotate_left
    · intro w hSw
      try dsimp only at hSw
      go_simp
      try with_reducible rfl
    try simp only [Act.put, List.setIfInBounds_toArray, List.set_cons_zero, List.set_cons_succ]
    refine wpAnyH_done (by kernel_rfl) ?_ _
    refine NoPanic.normal ?_
    clear hHeld hHeld1
    have HBW := Lib.hid (HB1.out.trans (((Below.refl _ _).drew.trans hb5).mono HB1.out.size))
    clear hb5
    go_wp2_with fail
    go_ret
    exact ⟨_, lit_f (fun h => by have := h.res1.2 HVR0.out; have := HK.out; omega), rfl, HBW.out⟩
end Go.Proofs.YtfeijijeohfpgaaDoor

