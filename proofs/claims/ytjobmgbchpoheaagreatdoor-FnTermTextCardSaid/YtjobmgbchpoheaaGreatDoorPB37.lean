/-
  Several texts of the proof in one (each says below what it holds): FormA IsNameI.
-/
import Derived.Test.YtjobmgbchpoheaaGreatDoorPB36
import Derived.Test.YtjobmgbchpoheaaGreatDoorPB22
import Derived.Test.YtjobmgbchpoheaaGreatDoorPB8
import Derived.Deep.RegionHeld3
namespace Go.Proofs.YtjobmgbchpoheaaGreatDoor
open Go Go.RowKit

set_option maxRecDepth 100000 in
set_option maxHeartbeats 1000000 in
theorem zeroI_any (k : Int) (p : Option Addr) (n c : Nat) (w : World) : Calls Tryz.prog 93 #[.agg #[.int .i64 k, .slice p n c]] w (Tells (k = 0 ∧ n = 0) w) := by
  have HB := Lib.hid (al_below w (.cells #[.int .i64 k, .slice p n c] 26))
  go_enter Tryz.func93, Tryz.ntmps93
  by_cases hk : k = 0
  · subst hk
    go_wp2_with fail
    go_ret
    exact ⟨_, by simp, rfl, HB.out⟩
  · have hk1 : (k == 0) = false := by simpa using hk
    go_wp2_with fail
    go_ret
    exact ⟨_, by simp [hk], rfl, HB.out⟩

theorem arK_out (x : Int) {k : Int} (h : k < 1 ∨ 13 < k) : arK k x = -1 := by
  unfold arK
  rw [if_neg (by omega), if_neg (by omega), if_neg (by omega), if_neg (by omega), if_neg (by omega), if_neg (by omega), if_neg (by omega), if_neg (by omega), if_neg (by omega), if_neg (by omega), if_neg (by omega), if_neg (by omega), if_neg (by omega)]
def Tm.arOk (t : Tm) : Prop := (t.args.length : Int) = t.arity ∧ (t.kind = 4 → 0 < t.args.length)

set_option maxRecDepth 100000 in
set_option maxHeartbeats 4000000 in
theorem hasAr_any (t : Tm) (tp : Option Addr) (tc : Nat) (rp : Option Addr) (rc : Nat) (p : Option Addr) (c : Nat) (w : World) (hka : KA w) (hn : t.wt ≤ 2097152) :
    Calls Tryz.prog 89 #[tmV t tp tc rp rc p c] w (Tells t.arOk w) := by
  have HB := Lib.hid (fun o => al_below w o)
  have HK := Lib.hid (fun o i => (hka.below (al_below w o)).cell i)
  have hl : t.args.length ≤ 2097152 := by have h1 := t.wt_eq; have h2 := wtS_ge t.args; omega
  clear hka hn
  unfold tmV
  by_cases hr : t.kind < 1 ∨ 13 < t.kind
  · have HN := Lib.hid (show ¬ t.arOk from fun e => by
      have h1 := e.1
      rw [Tm.arity, arK_out _ hr] at h1
      omega)
    rcases hr with hr | hr
    all_goals
      go_enter Tryz.func89, Tryz.ntmps89
      go_wp2_with fail
      go_ret
      exact ⟨_, lit_f HN.out, rfl, HB.out _⟩
  by_cases h4 : t.kind = 4
  · have HO := Lib.hid (opArI_any t.name)
    by_cases hz : 0 < t.args.length
    · have HA := Lib.hid (show (((t.args.length : Int) == opAr t.name.toList) = true ↔ t.arOk) by simp [Tm.arOk, Tm.arity, arK, h4, hz])
      have hd1 : decide (0 < t.args.length) = true := decide_eq_true hz
      rw [h4]
      clear hz hr h4
      go_enter Tryz.func89, Tryz.ntmps89
      go_wp2_with fail
      go_region_held3 (fun w' => w'.cell? ⟨w.heap.size, 1, none⟩ = some (.string t.name) ∧ w'.cell? ⟨w.heap.size, 8, none⟩ = some (.slice p t.args.length c) ∧ Below w.heap.size w w')
        (first
          | (go_keep; done)
          | exact ⟨cell_of_blk (blk_new w _) 1, cell_of_blk (blk_new w _) 8, (HB.out _).drew⟩
          | assumption)
        (first
          | (go_at_call 68; refine (HO.out _).mono ?_; rintro e w5 ⟨rfl, rfl⟩))
      rename_i hH
      have HBL := Lib.hid hH.2.2
      clear hH
      go_wp2_with fail
      go_ret
      exact ⟨_, HA.out, rfl, HBL.out⟩
    · have HA := Lib.hid (show ¬ t.arOk from fun e => hz (e.2 h4))
      rw [h4, show t.args.length = 0 by omega]
      clear hz hr h4 hl HO
      go_enter Tryz.func89, Tryz.ntmps89
      go_wp2_with fail
      refine wp_region_noPanic ?_
      refine wp_region_held_drew (S := (fun w' => w'.cell? ⟨w.heap.size, 1, none⟩ = some (.string t.name) ∧ w'.cell? ⟨w.heap.size, 8, none⟩ = some (.slice p 0 c) ∧ Below w.heap.size w w')) (by kernel_rfl) ?_ (fun hHeld => ?_)
      · try dsimp only
        exact ⟨cell_of_blk (blk_new w _) 1, cell_of_blk (blk_new w _) 8, (HB.out _).drew⟩
      refine wpAnyH_take (i := 0) (oi := ({ dst := some 16, op := Op.fieldAddr 29 (Operand.tmp 1) 6, type := 0, pos := "l05_term.go:117", after := #[], guard := none } : Oper)) (v := ?_) rfl (by kernel_rfl) (by kernel_rfl) (by kernel_rfl) (fun _ _ _ h => h) (Or.inl ⟨by rfl, ?_⟩) (by assumption) ?_
      rotate_left
      · intro w hSw
        try dsimp only at hSw
        go_simp
        try with_reducible rfl
      try simp only [Act.put, List.setIfInBounds_toArray, List.set_cons_zero, List.set_cons_succ]
      refine wpAnyH_take (i := 1) (oi := ({ dst := some 17, op := Op.load 27 (Operand.tmp 16), type := 27, pos := "l05_term.go:117", after := #[{ on := 0, ground := Ground.data }], guard := none } : Oper)) (v := ?_) rfl (by kernel_rfl) (by kernel_rfl) (by kernel_rfl) (fun _ _ _ h => h) (Or.inl ⟨by rfl, ?_⟩) (by assumption) ?_
      rotate_left
      · intro w hSw
        try dsimp only at hSw
        go_simp
        try with_reducible rfl
      try simp only [Act.put, List.setIfInBounds_toArray, List.set_cons_zero, List.set_cons_succ]
      refine wpAnyH_take (i := 2) (oi := ({ dst := some 18, op := Op.call { callee := Callee.builtin Builtin.len, args := #[Operand.tmp 17], argTypes := #[27] }, type := 3, pos := "l05_term.go:117", after := #[{ on := 1, ground := Ground.data }], guard := none } : Oper)) (v := ?_) rfl (by kernel_rfl) (by kernel_rfl) (by kernel_rfl) (fun _ _ _ h => h) (Or.inl ⟨by rfl, ?_⟩) (by assumption) ?_
      rotate_left
      · intro w hSw
        try dsimp only at hSw
        go_simp
        try with_reducible rfl
      try simp only [Act.put, List.setIfInBounds_toArray, List.set_cons_zero, List.set_cons_succ]
      refine wpAnyH_take (i := 3) (oi := ({ dst := some 19, op := Op.binOp BinOp.gtr 3 (Operand.tmp 18) (Operand.const (Value.int IntKind.i64 0)) 3, type := 4, pos := "l05_term.go:117", after := #[{ on := 2, ground := Ground.data }], guard := none } : Oper)) (v := ?_) rfl (by kernel_rfl) (by kernel_rfl) (by kernel_rfl) (fun _ _ _ h => h) (Or.inl ⟨by rfl, ?_⟩) (by assumption) ?_
      rotate_left
      · intro w hSw
        try dsimp only at hSw
        go_simp
        try with_reducible rfl
      try simp only [Act.put, List.setIfInBounds_toArray, List.set_cons_zero, List.set_cons_succ]
      refine wpAnyH_take (i := 4) (oi := ({ dst := some 20, op := Op.move (Operand.tmp 19), type := 4, pos := "l05_term.go:117", after := #[{ on := 3, ground := Ground.data }], guard := none } : Oper)) (v := ?_) rfl (by kernel_rfl) (by kernel_rfl) (by kernel_rfl) (fun _ _ _ h => h) (Or.inl ⟨by rfl, ?_⟩) (by assumption) ?_
      rotate_left
      · intro w hSw
        try dsimp only at hSw
        go_simp
        try with_reducible rfl
      try simp only [Act.put, List.setIfInBounds_toArray, List.set_cons_zero, List.set_cons_succ]
      refine wpAnyH_take (i := 5) (oi := ({ dst := some 21, op := Op.fieldAddr 29 (Operand.tmp 1) 6, type := 0, pos := "l05_term.go:117", after := #[{ on := 4, ground := Ground.guard }], guard := some (4, true) } : Oper)) (v := undef) rfl (by kernel_rfl) (by kernel_rfl) (by kernel_rfl) (fun _ _ _ h => h) (Or.inr ⟨by rfl, rfl⟩) (by assumption) ?_
      try simp only [Act.put, List.setIfInBounds_toArray, List.set_cons_zero, List.set_cons_succ]
      refine wpAnyH_take (i := 6) (oi := ({ dst := some 22, op := Op.load 27 (Operand.tmp 21), type := 27, pos := "l05_term.go:117", after := #[{ on := 5, ground := Ground.data }, { on := 4, ground := Ground.guard }], guard := some (4, true) } : Oper)) (v := undef) rfl (by kernel_rfl) (by kernel_rfl) (by kernel_rfl) (fun _ _ _ h => h) (Or.inr ⟨by rfl, rfl⟩) (by assumption) ?_
      try simp only [Act.put, List.setIfInBounds_toArray, List.set_cons_zero, List.set_cons_succ]
      refine wpAnyH_take (i := 7) (oi := ({ dst := some 23, op := Op.call { callee := Callee.builtin Builtin.len, args := #[Operand.tmp 22], argTypes := #[27] }, type := 3, pos := "l05_term.go:117", after := #[{ on := 6, ground := Ground.data }, { on := 4, ground := Ground.guard }], guard := some (4, true) } : Oper)) (v := undef) rfl (by kernel_rfl) (by kernel_rfl) (by kernel_rfl) (fun _ _ _ h => h) (Or.inr ⟨by rfl, rfl⟩) (by assumption) ?_
      try simp only [Act.put, List.setIfInBounds_toArray, List.set_cons_zero, List.set_cons_succ]
      refine wpAnyH_take (i := 8) (oi := ({ dst := some 24, op := Op.fieldAddr 29 (Operand.tmp 1) 1, type := 0, pos := "l05_term.go:117", after := #[{ on := 4, ground := Ground.guard }], guard := some (4, true) } : Oper)) (v := undef) rfl (by kernel_rfl) (by kernel_rfl) (by kernel_rfl) (fun _ _ _ h => h) (Or.inr ⟨by rfl, rfl⟩) (by assumption) ?_
      try simp only [Act.put, List.setIfInBounds_toArray, List.set_cons_zero, List.set_cons_succ]
      refine wpAnyH_take (i := 9) (oi := ({ dst := some 25, op := Op.load 9 (Operand.tmp 24), type := 9, pos := "l05_term.go:117", after := #[{ on := 8, ground := Ground.data }, { on := 4, ground := Ground.guard }], guard := some (4, true) } : Oper)) (v := undef) rfl (by kernel_rfl) (by kernel_rfl) (by kernel_rfl) (fun _ _ _ h => h) (Or.inr ⟨by rfl, rfl⟩) (by assumption) ?_
      try simp only [Act.put, List.setIfInBounds_toArray, List.set_cons_zero, List.set_cons_succ]
      refine wpAnyH_take (i := 10) (oi := ({ dst := some 26, op := Op.call { callee := Callee.value (Operand.func 68), args := #[Operand.tmp 25], argTypes := #[9] }, type := 3, pos := "l05_term.go:117", after := #[{ on := 9, ground := Ground.data }, { on := 4, ground := Ground.chain }, { on := 4, ground := Ground.guard }], guard := some (4, true) } : Oper)) (v := undef) rfl (by kernel_rfl) (by kernel_rfl) (by kernel_rfl) (fun _ _ _ h => h) (Or.inr ⟨by rfl, rfl⟩) (by assumption) ?_
      try simp only [Act.put, List.setIfInBounds_toArray, List.set_cons_zero, List.set_cons_succ]
      refine wpAnyH_take (i := 11) (oi := ({ dst := some 27, op := Op.binOp BinOp.eql 3 (Operand.tmp 23) (Operand.tmp 26) 3, type := 4, pos := "l05_term.go:117", after := #[{ on := 7, ground := Ground.data }, { on := 10, ground := Ground.data }, { on := 4, ground := Ground.guard }], guard := some (4, true) } : Oper)) (v := undef) rfl (by kernel_rfl) (by kernel_rfl) (by kernel_rfl) (fun _ _ _ h => h) (Or.inr ⟨by rfl, rfl⟩) (by assumption) ?_
      try simp only [Act.put, List.setIfInBounds_toArray, List.set_cons_zero, List.set_cons_succ]
      refine wpAnyH_take (i := 12) (oi := ({ dst := some 28, op := Op.pick (Operand.tmp 20) (Operand.tmp 27) (Operand.const (Value.bool false)), type := 4, pos := "l05_term.go:117", after := #[{ on := 4, ground := Ground.data }, { on := 11, ground := Ground.data }], guard := none } : Oper)) (v := ?_) rfl (by kernel_rfl) (by kernel_rfl) (by kernel_rfl) (fun _ _ _ h => h) (Or.inl ⟨by rfl, ?_⟩) (by assumption) ?_
      rotate_left
      · intro w hSw
        try dsimp only at hSw
        go_simp
        try with_reducible rfl
      try simp only [Act.put, List.setIfInBounds_toArray, List.set_cons_zero, List.set_cons_succ]
      refine wpAnyH_take (i := 13) (oi := ({ dst := some 2, op := Op.assign (Operand.tmp 28), type := 4, pos := "l05_term.go:117", after := #[{ on := 12, ground := Ground.data }, { on := 10, ground := Ground.chain }, { on := 0, ground := Ground.phase }, { on := 1, ground := Ground.phase }, { on := 2, ground := Ground.phase }, { on := 3, ground := Ground.phase }, { on := 4, ground := Ground.phase }, { on := 5, ground := Ground.phase }, { on := 6, ground := Ground.phase }, { on := 7, ground := Ground.phase }, { on := 8, ground := Ground.phase }, { on := 9, ground := Ground.phase }, { on := 10, ground := Ground.phase }, { on := 11, ground := Ground.phase }, { on := 12, ground := Ground.phase }], guard := none } : Oper)) (v := ?_) rfl (by kernel_rfl) (by kernel_rfl) (by kernel_rfl) (fun _ _ _ h => h) (Or.inl ⟨by rfl, ?_⟩) (by assumption) ?_
      rotate_left
      · intro w hSw
        try dsimp only at hSw
        go_simp
        try with_reducible rfl
      try simp only [Act.put, List.setIfInBounds_toArray, List.set_cons_zero, List.set_cons_succ]
      refine wpAnyH_done (by kernel_rfl) ?_ _
      refine NoPanic.normal ?_
      clear hHeld
      go_wp2_with fail
      go_ret
      exact ⟨_, lit_f HA.out, rfl, (HB.out _).drew⟩
  rcases (show t.kind = 1 ∨ t.kind = 2 ∨ t.kind = 3 ∨ t.kind = 5 ∨ t.kind = 6 ∨ t.kind = 7 ∨ t.kind = 8 ∨ t.kind = 9 ∨ t.kind = 10 ∨ t.kind = 11 ∨ t.kind = 12 ∨ t.kind = 13 by omega) with hk | hk | hk | hk | hk | hk | hk | hk | hk | hk | hk | hk
  · have HA := Lib.hid (show (((t.args.length : Int) == 0) = true ↔ t.arOk) by simp [Tm.arOk, Tm.arity, arK, hk])
    have hc : (w.alloc (.cells #[.int .i64 1, .string t.name, .string t.other, .int .i64 t.n, .int .i64 t.ty.kind, .slice tp t.ty.args.length tc, .int .i64 t.res.kind, .slice rp t.res.args.length rc, .slice p t.args.length c] 29)).cell? ⟨0, 1, none⟩ = some (.int .i64 0) := by rw [HK.out _ 1]; rfl
    rw [hk]
    clear h4 hr hk hl
    go_enter Tryz.func89, Tryz.ntmps89
    go_wp2_with fail
    go_region_held3 (fun w' => w'.cell? ⟨w.heap.size, 0, none⟩ = some (.int .i64 1) ∧ w'.cell? ⟨w.heap.size, 8, none⟩ = some (.slice p t.args.length c) ∧ w'.cell? ⟨0, 1, none⟩ = some (.int .i64 0) ∧ Below w.heap.size w w')
      (first
        | (go_keep; done)
        | exact ⟨cell_of_blk (blk_new w _) 0, cell_of_blk (blk_new w _) 8, hc, (HB.out _).drew⟩)
      (first
        | fail)
    rename_i hH
    have HBL := Lib.hid hH.2.2.2
    clear hH hc
    go_wp2_with fail
    go_ret
    exact ⟨_, HA.out, rfl, HBL.out⟩
  · have HA := Lib.hid (show (((t.args.length : Int) == 0) = true ↔ t.arOk) by simp [Tm.arOk, Tm.arity, arK, hk])
    have hc : (w.alloc (.cells #[.int .i64 2, .string t.name, .string t.other, .int .i64 t.n, .int .i64 t.ty.kind, .slice tp t.ty.args.length tc, .int .i64 t.res.kind, .slice rp t.res.args.length rc, .slice p t.args.length c] 29)).cell? ⟨0, 2, none⟩ = some (.int .i64 0) := by rw [HK.out _ 2]; rfl
    rw [hk]
    clear h4 hr hk hl
    go_enter Tryz.func89, Tryz.ntmps89
    go_wp2_with fail
    go_region_held3 (fun w' => w'.cell? ⟨w.heap.size, 0, none⟩ = some (.int .i64 2) ∧ w'.cell? ⟨w.heap.size, 8, none⟩ = some (.slice p t.args.length c) ∧ w'.cell? ⟨0, 2, none⟩ = some (.int .i64 0) ∧ Below w.heap.size w w')
      (first
        | (go_keep; done)
        | exact ⟨cell_of_blk (blk_new w _) 0, cell_of_blk (blk_new w _) 8, hc, (HB.out _).drew⟩)
      (first
        | fail)
    rename_i hH
    have HBL := Lib.hid hH.2.2.2
    clear hH hc
    go_wp2_with fail
    go_ret
    exact ⟨_, HA.out, rfl, HBL.out⟩
  · have HA := Lib.hid (show (((t.args.length : Int) == 0) = true ↔ t.arOk) by simp [Tm.arOk, Tm.arity, arK, hk])
    have hc : (w.alloc (.cells #[.int .i64 3, .string t.name, .string t.other, .int .i64 t.n, .int .i64 t.ty.kind, .slice tp t.ty.args.length tc, .int .i64 t.res.kind, .slice rp t.res.args.length rc, .slice p t.args.length c] 29)).cell? ⟨0, 3, none⟩ = some (.int .i64 0) := by rw [HK.out _ 3]; rfl
    rw [hk]
    clear h4 hr hk hl
    go_enter Tryz.func89, Tryz.ntmps89
    go_wp2_with fail
    go_region_held3 (fun w' => w'.cell? ⟨w.heap.size, 0, none⟩ = some (.int .i64 3) ∧ w'.cell? ⟨w.heap.size, 8, none⟩ = some (.slice p t.args.length c) ∧ w'.cell? ⟨0, 3, none⟩ = some (.int .i64 0) ∧ Below w.heap.size w w')
      (first
        | (go_keep; done)
        | exact ⟨cell_of_blk (blk_new w _) 0, cell_of_blk (blk_new w _) 8, hc, (HB.out _).drew⟩)
      (first
        | fail)
    rename_i hH
    have HBL := Lib.hid hH.2.2.2
    clear hH hc
    go_wp2_with fail
    go_ret
    exact ⟨_, HA.out, rfl, HBL.out⟩
  · have HA := Lib.hid (show (((t.args.length : Int) == 3) = true ↔ t.arOk) by simp [Tm.arOk, Tm.arity, arK, hk])
    have hc : (w.alloc (.cells #[.int .i64 5, .string t.name, .string t.other, .int .i64 t.n, .int .i64 t.ty.kind, .slice tp t.ty.args.length tc, .int .i64 t.res.kind, .slice rp t.res.args.length rc, .slice p t.args.length c] 29)).cell? ⟨0, 5, none⟩ = some (.int .i64 3) := by rw [HK.out _ 5]; rfl
    rw [hk]
    clear h4 hr hk hl
    go_enter Tryz.func89, Tryz.ntmps89
    go_wp2_with fail
    go_region_held3 (fun w' => w'.cell? ⟨w.heap.size, 0, none⟩ = some (.int .i64 5) ∧ w'.cell? ⟨w.heap.size, 8, none⟩ = some (.slice p t.args.length c) ∧ w'.cell? ⟨0, 5, none⟩ = some (.int .i64 3) ∧ Below w.heap.size w w')
      (first
        | (go_keep; done)
        | exact ⟨cell_of_blk (blk_new w _) 0, cell_of_blk (blk_new w _) 8, hc, (HB.out _).drew⟩)
      (first
        | fail)
    rename_i hH
    have HBL := Lib.hid hH.2.2.2
    clear hH hc
    go_wp2_with fail
    go_ret
    exact ⟨_, HA.out, rfl, HBL.out⟩
  · have HA := Lib.hid (show (((t.args.length : Int) == 1) = true ↔ t.arOk) by simp [Tm.arOk, Tm.arity, arK, hk])
    have hc : (w.alloc (.cells #[.int .i64 6, .string t.name, .string t.other, .int .i64 t.n, .int .i64 t.ty.kind, .slice tp t.ty.args.length tc, .int .i64 t.res.kind, .slice rp t.res.args.length rc, .slice p t.args.length c] 29)).cell? ⟨0, 6, none⟩ = some (.int .i64 1) := by rw [HK.out _ 6]; rfl
    rw [hk]
    clear h4 hr hk hl
    go_enter Tryz.func89, Tryz.ntmps89
    go_wp2_with fail
    go_region_held3 (fun w' => w'.cell? ⟨w.heap.size, 0, none⟩ = some (.int .i64 6) ∧ w'.cell? ⟨w.heap.size, 8, none⟩ = some (.slice p t.args.length c) ∧ w'.cell? ⟨0, 6, none⟩ = some (.int .i64 1) ∧ Below w.heap.size w w')
      (first
        | (go_keep; done)
        | exact ⟨cell_of_blk (blk_new w _) 0, cell_of_blk (blk_new w _) 8, hc, (HB.out _).drew⟩)
      (first
        | fail)
    rename_i hH
    have HBL := Lib.hid hH.2.2.2
    clear hH hc
    go_wp2_with fail
    go_ret
    exact ⟨_, HA.out, rfl, HBL.out⟩
  · have HA := Lib.hid (show (((t.args.length : Int) == 2) = true ↔ t.arOk) by simp [Tm.arOk, Tm.arity, arK, hk])
    have hc : (w.alloc (.cells #[.int .i64 7, .string t.name, .string t.other, .int .i64 t.n, .int .i64 t.ty.kind, .slice tp t.ty.args.length tc, .int .i64 t.res.kind, .slice rp t.res.args.length rc, .slice p t.args.length c] 29)).cell? ⟨0, 7, none⟩ = some (.int .i64 2) := by rw [HK.out _ 7]; rfl
    rw [hk]
    clear h4 hr hk hl
    go_enter Tryz.func89, Tryz.ntmps89
    go_wp2_with fail
    go_region_held3 (fun w' => w'.cell? ⟨w.heap.size, 0, none⟩ = some (.int .i64 7) ∧ w'.cell? ⟨w.heap.size, 8, none⟩ = some (.slice p t.args.length c) ∧ w'.cell? ⟨0, 7, none⟩ = some (.int .i64 2) ∧ Below w.heap.size w w')
      (first
        | (go_keep; done)
        | exact ⟨cell_of_blk (blk_new w _) 0, cell_of_blk (blk_new w _) 8, hc, (HB.out _).drew⟩)
      (first
        | fail)
    rename_i hH
    have HBL := Lib.hid hH.2.2.2
    clear hH hc
    go_wp2_with fail
    go_ret
    exact ⟨_, HA.out, rfl, HBL.out⟩
  · have HA := Lib.hid (show (((t.args.length : Int) == 2) = true ↔ t.arOk) by simp [Tm.arOk, Tm.arity, arK, hk])
    have hc : (w.alloc (.cells #[.int .i64 8, .string t.name, .string t.other, .int .i64 t.n, .int .i64 t.ty.kind, .slice tp t.ty.args.length tc, .int .i64 t.res.kind, .slice rp t.res.args.length rc, .slice p t.args.length c] 29)).cell? ⟨0, 8, none⟩ = some (.int .i64 2) := by rw [HK.out _ 8]; rfl
    rw [hk]
    clear h4 hr hk hl
    go_enter Tryz.func89, Tryz.ntmps89
    go_wp2_with fail
    go_region_held3 (fun w' => w'.cell? ⟨w.heap.size, 0, none⟩ = some (.int .i64 8) ∧ w'.cell? ⟨w.heap.size, 8, none⟩ = some (.slice p t.args.length c) ∧ w'.cell? ⟨0, 8, none⟩ = some (.int .i64 2) ∧ Below w.heap.size w w')
      (first
        | (go_keep; done)
        | exact ⟨cell_of_blk (blk_new w _) 0, cell_of_blk (blk_new w _) 8, hc, (HB.out _).drew⟩)
      (first
        | fail)
    rename_i hH
    have HBL := Lib.hid hH.2.2.2
    clear hH hc
    go_wp2_with fail
    go_ret
    exact ⟨_, HA.out, rfl, HBL.out⟩
  · have HA := Lib.hid (show (((t.args.length : Int) == 1) = true ↔ t.arOk) by simp [Tm.arOk, Tm.arity, arK, hk])
    have hc : (w.alloc (.cells #[.int .i64 9, .string t.name, .string t.other, .int .i64 t.n, .int .i64 t.ty.kind, .slice tp t.ty.args.length tc, .int .i64 t.res.kind, .slice rp t.res.args.length rc, .slice p t.args.length c] 29)).cell? ⟨0, 9, none⟩ = some (.int .i64 1) := by rw [HK.out _ 9]; rfl
    rw [hk]
    clear h4 hr hk hl
    go_enter Tryz.func89, Tryz.ntmps89
    go_wp2_with fail
    go_region_held3 (fun w' => w'.cell? ⟨w.heap.size, 0, none⟩ = some (.int .i64 9) ∧ w'.cell? ⟨w.heap.size, 8, none⟩ = some (.slice p t.args.length c) ∧ w'.cell? ⟨0, 9, none⟩ = some (.int .i64 1) ∧ Below w.heap.size w w')
      (first
        | (go_keep; done)
        | exact ⟨cell_of_blk (blk_new w _) 0, cell_of_blk (blk_new w _) 8, hc, (HB.out _).drew⟩)
      (first
        | fail)
    rename_i hH
    have HBL := Lib.hid hH.2.2.2
    clear hH hc
    go_wp2_with fail
    go_ret
    exact ⟨_, HA.out, rfl, HBL.out⟩
  · have HA := Lib.hid (show (((t.args.length : Int) == 1) = true ↔ t.arOk) by simp [Tm.arOk, Tm.arity, arK, hk])
    have hc : (w.alloc (.cells #[.int .i64 10, .string t.name, .string t.other, .int .i64 t.n, .int .i64 t.ty.kind, .slice tp t.ty.args.length tc, .int .i64 t.res.kind, .slice rp t.res.args.length rc, .slice p t.args.length c] 29)).cell? ⟨0, 10, none⟩ = some (.int .i64 1) := by rw [HK.out _ 10]; rfl
    rw [hk]
    clear h4 hr hk hl
    go_enter Tryz.func89, Tryz.ntmps89
    go_wp2_with fail
    go_region_held3 (fun w' => w'.cell? ⟨w.heap.size, 0, none⟩ = some (.int .i64 10) ∧ w'.cell? ⟨w.heap.size, 8, none⟩ = some (.slice p t.args.length c) ∧ w'.cell? ⟨0, 10, none⟩ = some (.int .i64 1) ∧ Below w.heap.size w w')
      (first
        | (go_keep; done)
        | exact ⟨cell_of_blk (blk_new w _) 0, cell_of_blk (blk_new w _) 8, hc, (HB.out _).drew⟩)
      (first
        | fail)
    rename_i hH
    have HBL := Lib.hid hH.2.2.2
    clear hH hc
    go_wp2_with fail
    go_ret
    exact ⟨_, HA.out, rfl, HBL.out⟩
  · have HA := Lib.hid (show (((t.args.length : Int) == 1) = true ↔ t.arOk) by simp [Tm.arOk, Tm.arity, arK, hk])
    have hc : (w.alloc (.cells #[.int .i64 11, .string t.name, .string t.other, .int .i64 t.n, .int .i64 t.ty.kind, .slice tp t.ty.args.length tc, .int .i64 t.res.kind, .slice rp t.res.args.length rc, .slice p t.args.length c] 29)).cell? ⟨0, 11, none⟩ = some (.int .i64 1) := by rw [HK.out _ 11]; rfl
    rw [hk]
    clear h4 hr hk hl
    go_enter Tryz.func89, Tryz.ntmps89
    go_wp2_with fail
    go_region_held3 (fun w' => w'.cell? ⟨w.heap.size, 0, none⟩ = some (.int .i64 11) ∧ w'.cell? ⟨w.heap.size, 8, none⟩ = some (.slice p t.args.length c) ∧ w'.cell? ⟨0, 11, none⟩ = some (.int .i64 1) ∧ Below w.heap.size w w')
      (first
        | (go_keep; done)
        | exact ⟨cell_of_blk (blk_new w _) 0, cell_of_blk (blk_new w _) 8, hc, (HB.out _).drew⟩)
      (first
        | fail)
    rename_i hH
    have HBL := Lib.hid hH.2.2.2
    clear hH hc
    go_wp2_with fail
    go_ret
    exact ⟨_, HA.out, rfl, HBL.out⟩
  · have HA := Lib.hid (show (((t.args.length : Int) == 1) = true ↔ t.arOk) by simp [Tm.arOk, Tm.arity, arK, hk])
    have hc : (w.alloc (.cells #[.int .i64 12, .string t.name, .string t.other, .int .i64 t.n, .int .i64 t.ty.kind, .slice tp t.ty.args.length tc, .int .i64 t.res.kind, .slice rp t.res.args.length rc, .slice p t.args.length c] 29)).cell? ⟨0, 12, none⟩ = some (.int .i64 1) := by rw [HK.out _ 12]; rfl
    rw [hk]
    clear h4 hr hk hl
    go_enter Tryz.func89, Tryz.ntmps89
    go_wp2_with fail
    go_region_held3 (fun w' => w'.cell? ⟨w.heap.size, 0, none⟩ = some (.int .i64 12) ∧ w'.cell? ⟨w.heap.size, 8, none⟩ = some (.slice p t.args.length c) ∧ w'.cell? ⟨0, 12, none⟩ = some (.int .i64 1) ∧ Below w.heap.size w w')
      (first
        | (go_keep; done)
        | exact ⟨cell_of_blk (blk_new w _) 0, cell_of_blk (blk_new w _) 8, hc, (HB.out _).drew⟩)
      (first
        | fail)
    rename_i hH
    have HBL := Lib.hid hH.2.2.2
    clear hH hc
    go_wp2_with fail
    go_ret
    exact ⟨_, HA.out, rfl, HBL.out⟩
  · have HA := Lib.hid (show (((t.args.length : Int) == 1) = true ↔ t.arOk) by simp [Tm.arOk, Tm.arity, arK, hk])
    have hc : (w.alloc (.cells #[.int .i64 13, .string t.name, .string t.other, .int .i64 t.n, .int .i64 t.ty.kind, .slice tp t.ty.args.length tc, .int .i64 t.res.kind, .slice rp t.res.args.length rc, .slice p t.args.length c] 29)).cell? ⟨0, 13, none⟩ = some (.int .i64 1) := by rw [HK.out _ 13]; rfl
    rw [hk]
    clear h4 hr hk hl
    go_enter Tryz.func89, Tryz.ntmps89
    go_wp2_with fail
    go_region_held3 (fun w' => w'.cell? ⟨w.heap.size, 0, none⟩ = some (.int .i64 13) ∧ w'.cell? ⟨w.heap.size, 8, none⟩ = some (.slice p t.args.length c) ∧ w'.cell? ⟨0, 13, none⟩ = some (.int .i64 1) ∧ Below w.heap.size w w')
      (first
        | (go_keep; done)
        | exact ⟨cell_of_blk (blk_new w _) 0, cell_of_blk (blk_new w _) 8, hc, (HB.out _).drew⟩)
      (first
        | fail)
    rename_i hH
    have HBL := Lib.hid hH.2.2.2
    clear hH hc
    go_wp2_with fail
    go_ret
    exact ⟨_, HA.out, rfl, HBL.out⟩
end Go.Proofs.YtjobmgbchpoheaaGreatDoor
namespace Go.Proofs.YtjobmgbchpoheaaGreatDoor
open Go Go.RowKit

theorem iter_below (w : World) (s : ByteArray) (pos : Nat) : Below w.heap.size w (w.iter s pos) := (Below.refl _ _).alloc (Nat.le_refl _) _
theorem size_nil {s : ByteArray} (h : s.toList = []) : s.size = 0 := by
  rw [ByteArray.toList_eq] at h
  obtain ⟨⟨l⟩⟩ := s
  have : l = [] := h
  subst this
  rfl
theorem nil_size {s : ByteArray} (h : s.size = 0) : s.toList = [] := by
  rw [ByteArray.toList_eq]
  obtain ⟨⟨l⟩⟩ := s
  exact List.eq_nil_of_length_eq_zero h

set_option maxRecDepth 100000 in
set_option maxHeartbeats 1000000 in
theorem nmI_loop (s : ByteArray) (w : World) (h1 : 1 ≤ s.size) (h4 : s.size ≤ 4) (hfree : ¬ Res s) : Calls Tryz.prog 90 #[.string s] w (Tells (Nm s) w) := by
  have t0 : (s.toList == []) = false := by
    rw [beq_eq_false_iff_ne]
    exact fun hc => absurd (size_nil hc) (by omega)
  have HC : Hid (Calls Tryz.prog 123 #[.string s] w fun e w' => e = .returned (.bool false) ∧ Below w.heap.size w w') := Lib.hid ((res_any s w).mono fun e w' ⟨r, hr, he, hb⟩ => by
    cases r with
    | true => exact absurd (hr.1 rfl) hfree
    | false => exact ⟨he, hb⟩)
  have HE := Lib.hid (fun (h : ∀ k, okAt s k) => Nm.mk h h1 h4 hfree)
  clear hfree
  go_enter Tryz.func90, Tryz.ntmps90
  go_wp2_with fail
  refine HC.out.mono ?_
  rintro e w1 ⟨rfl, hb1⟩
  have HB := Lib.hid hb1
  clear hb1 HC
  go_wp2_with fail
  go_loopw [3] (fun _ wr => ∃ pos : Nat, wr = w1.iter s pos ∧ Hid (∀ j, j < pos → okAt s j)) (fun _ wr => s.size - wr.iterPos w1.heap.size)
  case atStart => exact ⟨0, rfl, Lib.hid (fun j hj => absurd hj (Nat.not_lt_zero j))⟩
  case round =>
    obtain ⟨pos, rfl, HK⟩ := hrel
    have HBI := Lib.hid (HB.out.trans ((iter_below w1 s pos).mono HB.out.size))
    by_cases hp : pos < s.size
    · by_cases ha : s[pos].toNat < 128
      · have hnx : ∀ ty, (Instr.next (.pointer (some ⟨w1.heap.size, 0, none⟩)) true ty).run Tryz.prog (w1.iter s pos) = _ := fun ty => run_next_ascii w1 s pos ty hp ha
        have HBN := Lib.hid (HB.out.trans ((iter_below w1 s (pos + 1)).mono HB.out.size))
        by_cases hlet : 97 ≤ s[pos].toNat ∧ s[pos].toNat ≤ 122
        · obtain ⟨l1, l2⟩ := hlet
          have HN := Lib.hid (ok_next HK.out (ok_letter l1 l2))
          go_wp2_with fail
          go_roundw
          case rel => exact ⟨pos + 1, rfl, HN⟩
          case measure => simp; omega
        · by_cases hdig : 1 ≤ pos ∧ 48 ≤ s[pos].toNat ∧ s[pos].toNat ≤ 57
          · obtain ⟨d0, d1, d2⟩ := hdig
            have HN := Lib.hid (ok_next HK.out (ok_digit d0 d1 d2))
            have t := at_more d0
            clear hlet
            go_wp2_with fail
            go_roundw
            case rel => exact ⟨pos + 1, rfl, HN⟩
            case measure => simp; omega
          · have HN := Lib.hid (ok_bad (s := s) (k := pos) (hk := hp) (by omega) (by omega))
            rcases (show s[pos].toNat < 48 ∨ (pos = 0 ∧ 48 ≤ s[pos].toNat ∧ s[pos].toNat ≤ 57) ∨ (57 < s[pos].toNat ∧ s[pos].toNat < 97) ∨ 122 < s[pos].toNat by omega) with b1 | ⟨b0, b1, b2⟩ | ⟨b1, b2⟩ | b1
            all_goals clear hdig hlet
            · skip
              have p48 : decide ((48 : Int) ≤ (s[pos].toNat : Int)) = false := by simp; omega
              have p57 : decide ((s[pos].toNat : Int) ≤ 57) = true := by simp; omega
              have p97 : decide ((97 : Int) ≤ (s[pos].toNat : Int)) = false := by simp; omega
              have p122 : decide ((s[pos].toNat : Int) ≤ 122) = true := by simp; omega
              go_wp2_with fail
              go_ret
              exact ⟨false, tells_no HN.out, rfl, HBN.out⟩
            · subst b0
              have p48 : decide ((48 : Int) ≤ (s[0].toNat : Int)) = true := by simp; omega
              have p57 : decide ((s[0].toNat : Int) ≤ 57) = true := by simp; omega
              have p97 : decide ((97 : Int) ≤ (s[0].toNat : Int)) = false := by simp; omega
              have p122 : decide ((s[0].toNat : Int) ≤ 122) = true := by simp; omega
              go_wp2_with fail
              go_ret
              exact ⟨false, tells_no HN.out, rfl, HBN.out⟩
            · skip
              have p48 : decide ((48 : Int) ≤ (s[pos].toNat : Int)) = true := by simp; omega
              have p57 : decide ((s[pos].toNat : Int) ≤ 57) = false := by simp; omega
              have p97 : decide ((97 : Int) ≤ (s[pos].toNat : Int)) = false := by simp; omega
              have p122 : decide ((s[pos].toNat : Int) ≤ 122) = true := by simp; omega
              go_wp2_with fail
              go_ret
              exact ⟨false, tells_no HN.out, rfl, HBN.out⟩
            · skip
              have p48 : decide ((48 : Int) ≤ (s[pos].toNat : Int)) = true := by simp; omega
              have p57 : decide ((s[pos].toNat : Int) ≤ 57) = false := by simp; omega
              have p97 : decide ((97 : Int) ≤ (s[pos].toNat : Int)) = true := by simp; omega
              have p122 : decide ((s[pos].toNat : Int) ≤ 122) = false := by simp; omega
              go_wp2_with fail
              go_ret
              exact ⟨false, tells_no HN.out, rfl, HBN.out⟩
      · obtain ⟨r, hr⟩ : ∃ r, r = (Utf8.decode s pos).1 := ⟨_, rfl⟩
        obtain ⟨wd, hwd⟩ : ∃ wd, wd = (Utf8.decode s pos).2 := ⟨_, rfl⟩
        have hnx : ∀ ty, (Instr.next (.pointer (some ⟨w1.heap.size, 0, none⟩)) true ty).run Tryz.prog (w1.iter s pos) = _ := fun ty => run_next_any w1 s pos ty hp
        have hrh : 128 ≤ r := by rw [hr]; exact (decode_high s pos hp (by omega)).1
        rw [← hr, ← hwd] at hnx
        clear hr hwd
        have HBN := Lib.hid (HB.out.trans ((iter_below w1 s (pos + wd)).mono HB.out.size))
        have HN := Lib.hid (ok_bad (s := s) (k := pos) (hk := hp) (by omega) (by omega))
        have p48 : decide ((48 : Int) ≤ (r : Int)) = true := by simp; omega
        have p57 : decide ((r : Int) ≤ 57) = false := by simp; omega
        have p97 : decide ((97 : Int) ≤ (r : Int)) = true := by simp; omega
        have p122 : decide ((r : Int) ≤ 122) = false := by simp; omega
        go_wp2_with fail
        go_ret
        exact ⟨false, tells_no HN.out, rfl, HBN.out⟩
    · have hnx : ∀ ty, (Instr.next (.pointer (some ⟨w1.heap.size, 0, none⟩)) true ty).run Tryz.prog (w1.iter s pos) = _ := fun ty => run_next_end w1 s pos ty hp
      have HN := Lib.hid (HE.out (ok_end HK.out (by omega)))
      go_wp2_with fail
      go_ret
      exact ⟨true, tells_yes HN.out, rfl, HBI.out⟩

set_option maxRecDepth 100000 in
set_option maxHeartbeats 1000000 in
theorem nmI_any (s : ByteArray) (w : World) (hs : s.size ≤ 9223372036854775807) : Calls Tryz.prog 90 #[.string s] w (Tells (Nm s) w) := by
  by_cases h0 : s.size = 0
  · have t0 : (s.toList == []) = true := by rw [nil_size h0]; rfl
    have HN := Lib.hid (show ¬ Nm s from fun h => absurd h.lo (by omega))
    clear h0
    go_enter Tryz.func90, Tryz.ntmps90
    go_wp2_with fail
    go_ret
    exact ⟨false, tells_no HN.out, rfl, Below.refl _ _⟩
  have t0 : (s.toList == []) = false := by
    rw [beq_eq_false_iff_ne]
    exact fun hc => h0 (size_nil hc)
  by_cases h4 : 4 < (s.size : Int)
  · have HN := Lib.hid (show ¬ Nm s from fun h => absurd h.hi (by omega))
    go_enter Tryz.func90, Tryz.ntmps90
    go_wp2_with fail
    go_ret
    exact ⟨false, tells_no HN.out, rfl, Below.refl _ _⟩
  by_cases hres : Res s
  · have HN := Lib.hid (show ¬ Nm s from fun h => h.free hres)
    have HC : Hid (Calls Tryz.prog 123 #[.string s] w fun e w' => e = .returned (.bool true) ∧ Below w.heap.size w w') := Lib.hid ((res_any s w).mono fun e w' ⟨r, hr, he, hb⟩ => by
      cases r with
      | true => exact ⟨he, hb⟩
      | false => exact absurd (hr.2 hres) (by decide))
    clear hres
    go_enter Tryz.func90, Tryz.ntmps90
    go_wp2_with fail
    refine HC.out.mono ?_
    rintro e w1 ⟨rfl, hb1⟩
    go_wp2_with fail
    go_ret
    exact ⟨false, tells_no HN.out, rfl, hb1⟩
  exact nmI_loop s w (by omega) (by omega) hres

end Go.Proofs.YtjobmgbchpoheaaGreatDoor
