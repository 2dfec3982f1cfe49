/-
  Several texts of the proof in one (each says below what it holds): TmFieldsNine TmFieldsOth TmFields TmIsT TmText TmShape Num Read TmParse TmValid TmComp TyMark Kind Kind2 Erase SpecEq RangeT Aid EraseI SpecErase EraseTypeLaw TextS Strs JoinSpec Copy AppS Put Fmt TmLongS TmAny TxS.
-/
import Derived.Test.YtdofjnjiandcbaaDoorM1
import Derived.Deep.RegionHeld3
import Derived.Lib.Join
import Derived.Lib.ItoaLen
import Derived.Lib.ItoaNum
import Derived.Lib.AtoiAll
import Derived.RangeFuncKeeps
import Derived.RangeFuncLeaves
import Derived.RangeFuncNested
import Derived.RangeFuncBound
import Derived.RangeFuncCalls
import Derived.Shelf.Abstract
import Derived.IntWalk
import Derived.Shelf.RegionOpen
import Derived.WalkKit
import Derived.TacticsInMore
import Derived.LoopNIn
import Derived.LoopIn
import Derived.Sort.LoopGhostIn
import Derived.Deep.LoopGhost
import Derived.Deep.CutRange
import Derived.Deep.RegionHeldLaw
import Derived.Lib.SmallJoins
import Derived.OwnWalk
import Derived.Below
import Derived.Test.YtdofjnjiandcbaaDoorProg
import Derived.WalkSmall
import Derived.Lib.AppendStr
import Derived.Lib.Strings
import Derived.Lib.BufferRead
import Derived.Laws.OwnMore
import Derived.Laws.AppendOwn
/- TmFieldsNine: The contract of the model's l5Fields: one sort of kinds. -/
namespace Go.Proofs.YtdofjnjiandcbaaDoor
open Go Go.RowKit

set_option maxRecDepth 100000 in
set_option maxHeartbeats 8000000 in
theorem fieldsSNine {C : Nat → Prop} (t : Tm) (tp : Option Addr) (tc : Nat) (rp : Option Addr) (rc : Nat) (p : Option Addr) (c : Nat) (w : World) (hT : TM' w C t tp tc rp rc p c) (hn : t.wt ≤ 2097152) (k : t.kind = 9) :
    Calls Tryd.prog 27 #[tmV t tp tc rp rc p c] w (Tells t.FieldsOk w) := by
  have hw := t.wt_eq
  have n1 : nodesS t.ty.args ≤ 2097152 := by omega
  have n2 : nodesS t.res.args ≤ 2097152 := by omega
  have HB := Lib.hid (al_below w (.cells (tmC t tp tc rp rc p c) 35))
  have HX := Lib.hid (Bx9.new w t tp tc rp rc p c 35)
  have HTY := Lib.hid (fun (W : World) (hW : Below w.heap.size w W) => (⟨_, rfl, hT.ty.keep hW⟩ : TT W C t.ty (.agg #[.int .i64 t.ty.kind, .slice tp t.ty.args.length tc])))
  have HRS := Lib.hid (fun (W : World) (hW : Below w.heap.size w W) => (⟨_, rfl, hT.res.keep hW⟩ : TT W C t.res (.agg #[.int .i64 t.res.kind, .slice rp t.res.args.length rc])))
  have HNM := Lib.hid (fun W => namesS_any t tp tc rp rc p c W (by omega) (by omega))
  clear hT hw hn
  cases hvt : t.ty.valid
  all_goals
    cases hvr : t.res.valid
  all_goals
    have HVT := Lib.hid hvt
    have HVR0 := Lib.hid hvr
    have HVTC := Lib.hid (fun W hW => valid_lit (HTY.out W hW) n1 _ HVT.out)
    have HVRC := Lib.hid (fun W hW => valid_lit (HRS.out W hW) n2 _ HVR0.out)
    clear hvt hvr
  all_goals
    go_enter Tryd.func27, Tryd.ntmps27
  · have HK := Lib.hid k
    have ka := Int.le_of_eq k
    have kb := Int.le_of_eq k.symm
    have e9 : (t.kind == 9) = true := by simp [k]
    have n9 : (t.kind != 9) = false := by simp [k]
    have e6 : (t.kind == 6) = false := by simp [k]
    clear k ka kb
    go_wp2_with fail
    refine (HVTC.out _ HB.out).mono ?_
    rintro e w1 ⟨rfl, hb1⟩
    have HB1 := Lib.hid (HB.out.trans (hb1.mono HB.out.size))
    have HX1 := Lib.hid (HX.out.keep hb1)
    obtain ⟨g0, g1, g2, g3, g4, g5, g6, g7, g8⟩ := HX.out.keep hb1
    clear hb1
    go_wp2_with fail
    go_ret
    exact ⟨_, lit_f (fun h => by have := h.ty1.1 (Or.inr HK.out); rw [HVT.out] at this; cases this), rfl, HB1.out⟩
  · have HK := Lib.hid k
    have ka := Int.le_of_eq k
    have kb := Int.le_of_eq k.symm
    have e9 : (t.kind == 9) = true := by simp [k]
    have n9 : (t.kind != 9) = false := by simp [k]
    have e6 : (t.kind == 6) = false := by simp [k]
    clear k ka kb
    go_wp2_with fail
    refine (HVTC.out _ HB.out).mono ?_
    rintro e w1 ⟨rfl, hb1⟩
    have HB1 := Lib.hid (HB.out.trans (hb1.mono HB.out.size))
    have HX1 := Lib.hid (HX.out.keep hb1)
    obtain ⟨g0, g1, g2, g3, g4, g5, g6, g7, g8⟩ := HX.out.keep hb1
    clear hb1
    go_wp2_with fail
    go_ret
    exact ⟨_, lit_f (fun h => by have := h.ty1.1 (Or.inr HK.out); rw [HVT.out] at this; cases this), rfl, HB1.out⟩
  · have HK := Lib.hid k
    have ka := Int.le_of_eq k
    have kb := Int.le_of_eq k.symm
    have e9 : (t.kind == 9) = true := by simp [k]
    have n9 : (t.kind != 9) = false := by simp [k]
    have e6 : (t.kind == 6) = false := by simp [k]
    clear k ka kb
    go_wp2_with fail
    refine (HVTC.out _ HB.out).mono ?_
    rintro e w1 ⟨rfl, hb1⟩
    have HB1 := Lib.hid (HB.out.trans (hb1.mono HB.out.size))
    have HX1 := Lib.hid (HX.out.keep hb1)
    obtain ⟨g0, g1, g2, g3, g4, g5, g6, g7, g8⟩ := HX.out.keep hb1
    clear hb1
    have HVR := Lib.hid (HVRC.out w1.drew HB1.out.drew)
    go_wp2_with fail
    refine wp_region_noPanic ?_
    refine wp_region_held_drew (S := (fun w' => w'.cell? ⟨w.heap.size, 0, none⟩ = some (.int .i64 t.kind) ∧ w'.cell? ⟨w.heap.size, 6, none⟩ = some (.int .i64 t.res.kind) ∧ w'.cell? ⟨w.heap.size, 7, none⟩ = some (.slice rp t.res.args.length rc) ∧ Below w.heap.size w w')) (by kernel_rfl) ?_ (fun hHeld => ?_)
    · try dsimp only
      exact ⟨g0, g6, g7, HB1.out.drew⟩
    refine wpAnyH_take (i := 0) (oi := ({ dst := some 28, op := Op.fieldAddr 35 (Operand.tmp 1) 0, type := 0, pos := "l05_term.go:67", after := #[], guard := none } : Oper)) (v := ?_) rfl (by kernel_rfl) (by kernel_rfl) (by kernel_rfl) (fun _ _ _ h => h) (Or.inl ⟨by rfl, ?_⟩) (by assumption) ?_
    rotate_left
    · intro w hSw
      try dsimp only at hSw
      go_simp
      try with_reducible rfl
    try simp only [Act.put, List.setIfInBounds_toArray, List.set_cons_zero, List.set_cons_succ]
    refine wpAnyH_take (i := 1) (oi := ({ dst := some 29, op := Op.load 3 (Operand.tmp 28), type := 3, pos := "l05_term.go:67", after := #[{ on := 0, ground := Ground.data }], guard := none } : Oper)) (v := ?_) rfl (by kernel_rfl) (by kernel_rfl) (by kernel_rfl) (fun _ _ _ h => h) (Or.inl ⟨by rfl, ?_⟩) (by assumption) ?_
    rotate_left
    · intro w hSw
      try dsimp only at hSw
      go_simp
      try with_reducible rfl
    try simp only [Act.put, List.setIfInBounds_toArray, List.set_cons_zero, List.set_cons_succ]
    refine wpAnyH_take (i := 2) (oi := ({ dst := some 30, op := Op.binOp BinOp.eql 3 (Operand.tmp 29) (Operand.const (Value.int IntKind.i64 9)) 3, type := 4, pos := "l05_term.go:67", after := #[{ on := 1, ground := Ground.data }], guard := none } : Oper)) (v := ?_) rfl (by kernel_rfl) (by kernel_rfl) (by kernel_rfl) (fun _ _ _ h => h) (Or.inl ⟨by rfl, ?_⟩) (by assumption) ?_
    rotate_left
    · intro w hSw
      try dsimp only at hSw
      go_simp
      try with_reducible rfl
    try simp only [Act.put, List.setIfInBounds_toArray, List.set_cons_zero, List.set_cons_succ]
    refine wpAnyH_take (i := 3) (oi := ({ dst := some 31, op := Op.fieldAddr 35 (Operand.tmp 1) 5, type := 0, pos := "l05_term.go:67", after := #[], guard := none } : Oper)) (v := ?_) rfl (by kernel_rfl) (by kernel_rfl) (by kernel_rfl) (fun _ _ _ h => h) (Or.inl ⟨by rfl, ?_⟩) (by assumption) ?_
    rotate_left
    · intro w hSw
      try dsimp only at hSw
      go_simp
      try with_reducible rfl
    try simp only [Act.put, List.setIfInBounds_toArray, List.set_cons_zero, List.set_cons_succ]
    refine wpAnyH_take (i := 4) (oi := ({ dst := some 32, op := Op.load 32 (Operand.tmp 31), type := 32, pos := "l05_term.go:67", after := #[{ on := 3, ground := Ground.data }], guard := none } : Oper)) (v := ?_) rfl (by kernel_rfl) (by kernel_rfl) (by kernel_rfl) (fun _ _ _ h => h) (Or.inl ⟨by rfl, ?_⟩) (by assumption) ?_
    rotate_left
    · intro w hSw
      try dsimp only at hSw
      go_simp
      try with_reducible rfl
    try simp only [Act.put, List.setIfInBounds_toArray, List.set_cons_zero, List.set_cons_succ]
    refine wpAnyH_ready (rs := [5]) (by kernel_rfl) (by simp) ?_
    refine AllReadyH.cons (o := ({ dst := some 33, op := Op.call { callee := Callee.value (Operand.func 42), args := #[Operand.tmp 32], argTypes := #[32] }, type := 4, pos := "l05_term.go:67", after := #[{ on := 4, ground := Ground.data }], guard := none } : Oper)) rfl (fun K hK => ?_) AllReadyH.nil
    go_simp
    (go_at_call 42; refine HVR.out.mono ?_; rintro e w5 ⟨rfl, hb5⟩)
    refine hK.out _ _ ?_ (fun hHeld1 => ?_)
    · try dsimp only
      exact keepR hb5 (by assumption)
    clear hK K
    try simp only [Act.put, List.setIfInBounds_toArray, List.set_cons_zero, List.set_cons_succ]
    refine wpAnyH_take (i := 6) (oi := ({ dst := some 34, op := Op.binOp BinOp.neq 4 (Operand.tmp 30) (Operand.tmp 33) 4, type := 4, pos := "l05_term.go:67", after := #[{ on := 2, ground := Ground.data }, { on := 5, ground := Ground.data }], guard := none } : Oper)) (v := ?_) rfl (by kernel_rfl) (by kernel_rfl) (by kernel_rfl) (fun _ _ _ h => h) (Or.inl ⟨by rfl, ?_⟩) (by assumption) ?_
    rotate_left
    · intro w hSw
      try dsimp only at hSw
      go_simp
      try with_reducible rfl
    try simp only [Act.put, List.setIfInBounds_toArray, List.set_cons_zero, List.set_cons_succ]
    refine wpAnyH_take (i := 7) (oi := ({ dst := some 35, op := Op.move (Operand.tmp 34), type := 4, pos := "l05_term.go:67", after := #[{ on := 6, ground := Ground.data }, { on := 5, ground := Ground.chain }], guard := none } : Oper)) (v := ?_) rfl (by kernel_rfl) (by kernel_rfl) (by kernel_rfl) (fun _ _ _ h => h) (Or.inl ⟨by rfl, ?_⟩) (by assumption) ?_
    rotate_left
    · intro w hSw
      try dsimp only at hSw
      go_simp
      try with_reducible rfl
    try simp only [Act.put, List.setIfInBounds_toArray, List.set_cons_zero, List.set_cons_succ]
    refine wpAnyH_take (i := 8) (oi := ({ dst := some 36, op := Op.fieldAddr 35 (Operand.tmp 1) 0, type := 0, pos := "l05_term.go:67", after := #[{ on := 7, ground := Ground.guard }], guard := some (7, false) } : Oper)) (v := undef) rfl (by kernel_rfl) (by kernel_rfl) (by kernel_rfl) (fun _ _ _ h => h) (Or.inr ⟨by rfl, rfl⟩) (by assumption) ?_
    try simp only [Act.put, List.setIfInBounds_toArray, List.set_cons_zero, List.set_cons_succ]
    refine wpAnyH_take (i := 9) (oi := ({ dst := some 37, op := Op.load 3 (Operand.tmp 36), type := 3, pos := "l05_term.go:67", after := #[{ on := 8, ground := Ground.data }, { on := 7, ground := Ground.guard }], guard := some (7, false) } : Oper)) (v := undef) rfl (by kernel_rfl) (by kernel_rfl) (by kernel_rfl) (fun _ _ _ h => h) (Or.inr ⟨by rfl, rfl⟩) (by assumption) ?_
    try simp only [Act.put, List.setIfInBounds_toArray, List.set_cons_zero, List.set_cons_succ]
    refine wpAnyH_take (i := 10) (oi := ({ dst := some 38, op := Op.binOp BinOp.neq 3 (Operand.tmp 37) (Operand.const (Value.int IntKind.i64 9)) 3, type := 4, pos := "l05_term.go:67", after := #[{ on := 9, ground := Ground.data }, { on := 7, ground := Ground.guard }], guard := some (7, false) } : Oper)) (v := undef) rfl (by kernel_rfl) (by kernel_rfl) (by kernel_rfl) (fun _ _ _ h => h) (Or.inr ⟨by rfl, rfl⟩) (by assumption) ?_
    try simp only [Act.put, List.setIfInBounds_toArray, List.set_cons_zero, List.set_cons_succ]
    refine wpAnyH_take (i := 11) (oi := ({ dst := some 39, op := Op.move (Operand.tmp 38), type := 4, pos := "l05_term.go:67", after := #[{ on := 10, ground := Ground.data }, { on := 7, ground := Ground.chain }, { on := 7, ground := Ground.guard }], guard := some (7, false) } : Oper)) (v := undef) rfl (by kernel_rfl) (by kernel_rfl) (by kernel_rfl) (fun _ _ _ h => h) (Or.inr ⟨by rfl, rfl⟩) (by assumption) ?_
    try simp only [Act.put, List.setIfInBounds_toArray, List.set_cons_zero, List.set_cons_succ]
    refine wpAnyH_take (i := 12) (oi := ({ dst := some 40, op := Op.fieldAddr 35 (Operand.tmp 1) 5, type := 0, pos := "l05_term.go:67", after := #[{ on := 11, ground := Ground.guard }], guard := some (11, true) } : Oper)) (v := undef) rfl (by kernel_rfl) (by kernel_rfl) (by kernel_rfl) (fun _ _ _ h => h) (Or.inr ⟨by rfl, rfl⟩) (by assumption) ?_
    try simp only [Act.put, List.setIfInBounds_toArray, List.set_cons_zero, List.set_cons_succ]
    refine wpAnyH_take (i := 13) (oi := ({ dst := some 41, op := Op.load 32 (Operand.tmp 40), type := 32, pos := "l05_term.go:67", after := #[{ on := 12, ground := Ground.data }, { on := 11, ground := Ground.guard }], guard := some (11, true) } : Oper)) (v := undef) rfl (by kernel_rfl) (by kernel_rfl) (by kernel_rfl) (fun _ _ _ h => h) (Or.inr ⟨by rfl, rfl⟩) (by assumption) ?_
    try simp only [Act.put, List.setIfInBounds_toArray, List.set_cons_zero, List.set_cons_succ]
    refine wpAnyH_take (i := 14) (oi := ({ dst := some 42, op := Op.call { callee := Callee.value (Operand.func 43), args := #[Operand.tmp 41], argTypes := #[32] }, type := 4, pos := "l05_term.go:67", after := #[{ on := 13, ground := Ground.data }, { on := 11, ground := Ground.chain }, { on := 11, ground := Ground.guard }], guard := some (11, true) } : Oper)) (v := undef) rfl (by kernel_rfl) (by kernel_rfl) (by kernel_rfl) (fun _ _ _ h => h) (Or.inr ⟨by rfl, rfl⟩) (by assumption) ?_
    try simp only [Act.put, List.setIfInBounds_toArray, List.set_cons_zero, List.set_cons_succ]
    refine wpAnyH_take (i := 15) (oi := ({ dst := some 43, op := Op.unOp UnOp.not 4 (Operand.tmp 42), type := 4, pos := "l05_term.go:67", after := #[{ on := 14, ground := Ground.data }, { on := 11, ground := Ground.guard }], guard := some (11, true) } : Oper)) (v := undef) rfl (by kernel_rfl) (by kernel_rfl) (by kernel_rfl) (fun _ _ _ h => h) (Or.inr ⟨by rfl, rfl⟩) (by assumption) ?_
    try simp only [Act.put, List.setIfInBounds_toArray, List.set_cons_zero, List.set_cons_succ]
    refine wpAnyH_take (i := 16) (oi := ({ dst := some 44, op := Op.pick (Operand.tmp 39) (Operand.tmp 43) (Operand.const (Value.bool false)), type := 4, pos := "l05_term.go:67", after := #[{ on := 11, ground := Ground.data }, { on := 15, ground := Ground.data }, { on := 7, ground := Ground.guard }], guard := some (7, false) } : Oper)) (v := undef) rfl (by kernel_rfl) (by kernel_rfl) (by kernel_rfl) (fun _ _ _ h => h) (Or.inr ⟨by rfl, rfl⟩) (by assumption) ?_
    try simp only [Act.put, List.setIfInBounds_toArray, List.set_cons_zero, List.set_cons_succ]
    refine wpAnyH_take (i := 17) (oi := ({ dst := some 45, op := Op.pick (Operand.tmp 35) (Operand.const (Value.bool true)) (Operand.tmp 44), type := 4, pos := "l05_term.go:67", after := #[{ on := 7, ground := Ground.data }, { on := 16, ground := Ground.data }], guard := none } : Oper)) (v := ?_) rfl (by kernel_rfl) (by kernel_rfl) (by kernel_rfl) (fun _ _ _ h => h) (Or.inl ⟨by rfl, ?_⟩) (by assumption) ?_
    rotate_left
    · intro w hSw
      try dsimp only at hSw
      go_simp
      try with_reducible rfl
    try simp only [Act.put, List.setIfInBounds_toArray, List.set_cons_zero, List.set_cons_succ]
    refine wpAnyH_done (by kernel_rfl) ?_ _
    refine NoPanic.normal ?_
    clear hHeld hHeld1
    have HBW := Lib.hid (HB1.out.trans (((Below.refl _ _).drew.trans hb5).mono HB1.out.size))
    clear hb5
    go_wp2_with fail
    go_ret
    exact ⟨_, lit_f (fun h => by have := h.res1.1 HK.out; rw [HVR0.out] at this; cases this), rfl, HBW.out⟩
  · have HK := Lib.hid k
    have ka := Int.le_of_eq k
    have kb := Int.le_of_eq k.symm
    have e9 : (t.kind == 9) = true := by simp [k]
    have n9 : (t.kind != 9) = false := by simp [k]
    have e6 : (t.kind == 6) = false := by simp [k]
    clear k ka kb
    go_wp2_with fail
    refine (HVTC.out _ HB.out).mono ?_
    rintro e w1 ⟨rfl, hb1⟩
    have HB1 := Lib.hid (HB.out.trans (hb1.mono HB.out.size))
    have HX1 := Lib.hid (HX.out.keep hb1)
    obtain ⟨g0, g1, g2, g3, g4, g5, g6, g7, g8⟩ := HX.out.keep hb1
    clear hb1
    have HVR := Lib.hid (HVRC.out w1.drew HB1.out.drew)
    go_wp2_with fail
    refine wp_region_noPanic ?_
    refine wp_region_held_drew (S := (fun w' => w'.cell? ⟨w.heap.size, 0, none⟩ = some (.int .i64 t.kind) ∧ w'.cell? ⟨w.heap.size, 6, none⟩ = some (.int .i64 t.res.kind) ∧ w'.cell? ⟨w.heap.size, 7, none⟩ = some (.slice rp t.res.args.length rc) ∧ Below w.heap.size w w')) (by kernel_rfl) ?_ (fun hHeld => ?_)
    · try dsimp only
      exact ⟨g0, g6, g7, HB1.out.drew⟩
    refine wpAnyH_take (i := 0) (oi := ({ dst := some 28, op := Op.fieldAddr 35 (Operand.tmp 1) 0, type := 0, pos := "l05_term.go:67", after := #[], guard := none } : Oper)) (v := ?_) rfl (by kernel_rfl) (by kernel_rfl) (by kernel_rfl) (fun _ _ _ h => h) (Or.inl ⟨by rfl, ?_⟩) (by assumption) ?_
    rotate_left
    · intro w hSw
      try dsimp only at hSw
      go_simp
      try with_reducible rfl
    try simp only [Act.put, List.setIfInBounds_toArray, List.set_cons_zero, List.set_cons_succ]
    refine wpAnyH_take (i := 1) (oi := ({ dst := some 29, op := Op.load 3 (Operand.tmp 28), type := 3, pos := "l05_term.go:67", after := #[{ on := 0, ground := Ground.data }], guard := none } : Oper)) (v := ?_) rfl (by kernel_rfl) (by kernel_rfl) (by kernel_rfl) (fun _ _ _ h => h) (Or.inl ⟨by rfl, ?_⟩) (by assumption) ?_
    rotate_left
    · intro w hSw
      try dsimp only at hSw
      go_simp
      try with_reducible rfl
    try simp only [Act.put, List.setIfInBounds_toArray, List.set_cons_zero, List.set_cons_succ]
    refine wpAnyH_take (i := 2) (oi := ({ dst := some 30, op := Op.binOp BinOp.eql 3 (Operand.tmp 29) (Operand.const (Value.int IntKind.i64 9)) 3, type := 4, pos := "l05_term.go:67", after := #[{ on := 1, ground := Ground.data }], guard := none } : Oper)) (v := ?_) rfl (by kernel_rfl) (by kernel_rfl) (by kernel_rfl) (fun _ _ _ h => h) (Or.inl ⟨by rfl, ?_⟩) (by assumption) ?_
    rotate_left
    · intro w hSw
      try dsimp only at hSw
      go_simp
      try with_reducible rfl
    try simp only [Act.put, List.setIfInBounds_toArray, List.set_cons_zero, List.set_cons_succ]
    refine wpAnyH_take (i := 3) (oi := ({ dst := some 31, op := Op.fieldAddr 35 (Operand.tmp 1) 5, type := 0, pos := "l05_term.go:67", after := #[], guard := none } : Oper)) (v := ?_) rfl (by kernel_rfl) (by kernel_rfl) (by kernel_rfl) (fun _ _ _ h => h) (Or.inl ⟨by rfl, ?_⟩) (by assumption) ?_
    rotate_left
    · intro w hSw
      try dsimp only at hSw
      go_simp
      try with_reducible rfl
    try simp only [Act.put, List.setIfInBounds_toArray, List.set_cons_zero, List.set_cons_succ]
    refine wpAnyH_take (i := 4) (oi := ({ dst := some 32, op := Op.load 32 (Operand.tmp 31), type := 32, pos := "l05_term.go:67", after := #[{ on := 3, ground := Ground.data }], guard := none } : Oper)) (v := ?_) rfl (by kernel_rfl) (by kernel_rfl) (by kernel_rfl) (fun _ _ _ h => h) (Or.inl ⟨by rfl, ?_⟩) (by assumption) ?_
    rotate_left
    · intro w hSw
      try dsimp only at hSw
      go_simp
      try with_reducible rfl
    try simp only [Act.put, List.setIfInBounds_toArray, List.set_cons_zero, List.set_cons_succ]
    refine wpAnyH_ready (rs := [5]) (by kernel_rfl) (by simp) ?_
    refine AllReadyH.cons (o := ({ dst := some 33, op := Op.call { callee := Callee.value (Operand.func 42), args := #[Operand.tmp 32], argTypes := #[32] }, type := 4, pos := "l05_term.go:67", after := #[{ on := 4, ground := Ground.data }], guard := none } : Oper)) rfl (fun K hK => ?_) AllReadyH.nil
    go_simp
    (go_at_call 42; refine HVR.out.mono ?_; rintro e w5 ⟨rfl, hb5⟩)
    refine hK.out _ _ ?_ (fun hHeld1 => ?_)
    · try dsimp only
      exact keepR hb5 (by assumption)
    clear hK K
    try simp only [Act.put, List.setIfInBounds_toArray, List.set_cons_zero, List.set_cons_succ]
    refine wpAnyH_take (i := 6) (oi := ({ dst := some 34, op := Op.binOp BinOp.neq 4 (Operand.tmp 30) (Operand.tmp 33) 4, type := 4, pos := "l05_term.go:67", after := #[{ on := 2, ground := Ground.data }, { on := 5, ground := Ground.data }], guard := none } : Oper)) (v := ?_) rfl (by kernel_rfl) (by kernel_rfl) (by kernel_rfl) (fun _ _ _ h => h) (Or.inl ⟨by rfl, ?_⟩) (by assumption) ?_
    rotate_left
    · intro w hSw
      try dsimp only at hSw
      go_simp
      try with_reducible rfl
    try simp only [Act.put, List.setIfInBounds_toArray, List.set_cons_zero, List.set_cons_succ]
    refine wpAnyH_take (i := 7) (oi := ({ dst := some 35, op := Op.move (Operand.tmp 34), type := 4, pos := "l05_term.go:67", after := #[{ on := 6, ground := Ground.data }, { on := 5, ground := Ground.chain }], guard := none } : Oper)) (v := ?_) rfl (by kernel_rfl) (by kernel_rfl) (by kernel_rfl) (fun _ _ _ h => h) (Or.inl ⟨by rfl, ?_⟩) (by assumption) ?_
    rotate_left
    · intro w hSw
      try dsimp only at hSw
      go_simp
      try with_reducible rfl
    try simp only [Act.put, List.setIfInBounds_toArray, List.set_cons_zero, List.set_cons_succ]
    refine wpAnyH_take (i := 8) (oi := ({ dst := some 36, op := Op.fieldAddr 35 (Operand.tmp 1) 0, type := 0, pos := "l05_term.go:67", after := #[{ on := 7, ground := Ground.guard }], guard := some (7, false) } : Oper)) (v := ?_) rfl (by kernel_rfl) (by kernel_rfl) (by kernel_rfl) (fun _ _ _ h => h) (Or.inl ⟨by rfl, ?_⟩) (by assumption) ?_
    rotate_left
    · intro w hSw
      try dsimp only at hSw
      go_simp
      try with_reducible rfl
    try simp only [Act.put, List.setIfInBounds_toArray, List.set_cons_zero, List.set_cons_succ]
    refine wpAnyH_take (i := 9) (oi := ({ dst := some 37, op := Op.load 3 (Operand.tmp 36), type := 3, pos := "l05_term.go:67", after := #[{ on := 8, ground := Ground.data }, { on := 7, ground := Ground.guard }], guard := some (7, false) } : Oper)) (v := ?_) rfl (by kernel_rfl) (by kernel_rfl) (by kernel_rfl) (fun _ _ _ h => h) (Or.inl ⟨by rfl, ?_⟩) (by assumption) ?_
    rotate_left
    · intro w hSw
      try dsimp only at hSw
      go_simp
      try with_reducible rfl
    try simp only [Act.put, List.setIfInBounds_toArray, List.set_cons_zero, List.set_cons_succ]
    refine wpAnyH_take (i := 10) (oi := ({ dst := some 38, op := Op.binOp BinOp.neq 3 (Operand.tmp 37) (Operand.const (Value.int IntKind.i64 9)) 3, type := 4, pos := "l05_term.go:67", after := #[{ on := 9, ground := Ground.data }, { on := 7, ground := Ground.guard }], guard := some (7, false) } : Oper)) (v := ?_) rfl (by kernel_rfl) (by kernel_rfl) (by kernel_rfl) (fun _ _ _ h => h) (Or.inl ⟨by rfl, ?_⟩) (by assumption) ?_
    rotate_left
    · intro w hSw
      try dsimp only at hSw
      go_simp
      try with_reducible rfl
    try simp only [Act.put, List.setIfInBounds_toArray, List.set_cons_zero, List.set_cons_succ]
    refine wpAnyH_take (i := 11) (oi := ({ dst := some 39, op := Op.move (Operand.tmp 38), type := 4, pos := "l05_term.go:67", after := #[{ on := 10, ground := Ground.data }, { on := 7, ground := Ground.chain }, { on := 7, ground := Ground.guard }], guard := some (7, false) } : Oper)) (v := ?_) rfl (by kernel_rfl) (by kernel_rfl) (by kernel_rfl) (fun _ _ _ h => h) (Or.inl ⟨by rfl, ?_⟩) (by assumption) ?_
    rotate_left
    · intro w hSw
      try dsimp only at hSw
      go_simp
      try with_reducible rfl
    try simp only [Act.put, List.setIfInBounds_toArray, List.set_cons_zero, List.set_cons_succ]
    refine wpAnyH_take (i := 12) (oi := ({ dst := some 40, op := Op.fieldAddr 35 (Operand.tmp 1) 5, type := 0, pos := "l05_term.go:67", after := #[{ on := 11, ground := Ground.guard }], guard := some (11, true) } : Oper)) (v := undef) rfl (by kernel_rfl) (by kernel_rfl) (by kernel_rfl) (fun _ _ _ h => h) (Or.inr ⟨by rfl, rfl⟩) (by assumption) ?_
    try simp only [Act.put, List.setIfInBounds_toArray, List.set_cons_zero, List.set_cons_succ]
    refine wpAnyH_take (i := 13) (oi := ({ dst := some 41, op := Op.load 32 (Operand.tmp 40), type := 32, pos := "l05_term.go:67", after := #[{ on := 12, ground := Ground.data }, { on := 11, ground := Ground.guard }], guard := some (11, true) } : Oper)) (v := undef) rfl (by kernel_rfl) (by kernel_rfl) (by kernel_rfl) (fun _ _ _ h => h) (Or.inr ⟨by rfl, rfl⟩) (by assumption) ?_
    try simp only [Act.put, List.setIfInBounds_toArray, List.set_cons_zero, List.set_cons_succ]
    refine wpAnyH_take (i := 14) (oi := ({ dst := some 42, op := Op.call { callee := Callee.value (Operand.func 43), args := #[Operand.tmp 41], argTypes := #[32] }, type := 4, pos := "l05_term.go:67", after := #[{ on := 13, ground := Ground.data }, { on := 11, ground := Ground.chain }, { on := 11, ground := Ground.guard }], guard := some (11, true) } : Oper)) (v := undef) rfl (by kernel_rfl) (by kernel_rfl) (by kernel_rfl) (fun _ _ _ h => h) (Or.inr ⟨by rfl, rfl⟩) (by assumption) ?_
    try simp only [Act.put, List.setIfInBounds_toArray, List.set_cons_zero, List.set_cons_succ]
    refine wpAnyH_take (i := 15) (oi := ({ dst := some 43, op := Op.unOp UnOp.not 4 (Operand.tmp 42), type := 4, pos := "l05_term.go:67", after := #[{ on := 14, ground := Ground.data }, { on := 11, ground := Ground.guard }], guard := some (11, true) } : Oper)) (v := undef) rfl (by kernel_rfl) (by kernel_rfl) (by kernel_rfl) (fun _ _ _ h => h) (Or.inr ⟨by rfl, rfl⟩) (by assumption) ?_
    try simp only [Act.put, List.setIfInBounds_toArray, List.set_cons_zero, List.set_cons_succ]
    refine wpAnyH_take (i := 16) (oi := ({ dst := some 44, op := Op.pick (Operand.tmp 39) (Operand.tmp 43) (Operand.const (Value.bool false)), type := 4, pos := "l05_term.go:67", after := #[{ on := 11, ground := Ground.data }, { on := 15, ground := Ground.data }, { on := 7, ground := Ground.guard }], guard := some (7, false) } : Oper)) (v := ?_) rfl (by kernel_rfl) (by kernel_rfl) (by kernel_rfl) (fun _ _ _ h => h) (Or.inl ⟨by rfl, ?_⟩) (by assumption) ?_
    rotate_left
    · intro w hSw
      try dsimp only at hSw
      go_simp
      try with_reducible rfl
    try simp only [Act.put, List.setIfInBounds_toArray, List.set_cons_zero, List.set_cons_succ]
    refine wpAnyH_take (i := 17) (oi := ({ dst := some 45, op := Op.pick (Operand.tmp 35) (Operand.const (Value.bool true)) (Operand.tmp 44), type := 4, pos := "l05_term.go:67", after := #[{ on := 7, ground := Ground.data }, { on := 16, ground := Ground.data }], guard := none } : Oper)) (v := ?_) rfl (by kernel_rfl) (by kernel_rfl) (by kernel_rfl) (fun _ _ _ h => h) (Or.inl ⟨by rfl, ?_⟩) (by assumption) ?_
    rotate_left
    · intro w hSw
      try dsimp only at hSw
      go_simp
      try with_reducible rfl
    try simp only [Act.put, List.setIfInBounds_toArray, List.set_cons_zero, List.set_cons_succ]
    refine wpAnyH_done (by kernel_rfl) ?_ _
    refine NoPanic.normal ?_
    clear hHeld hHeld1
    have hbd : Below w1.heap.size w1 _ := (Below.refl _ _).drew.trans hb5
    have HBW := Lib.hid (HB1.out.trans (hbd.mono HB1.out.size))
    clear g0 g1 g2 g3 g4 g5 g6 g7 g8
    obtain ⟨g0, g1, g2, g3, g4, g5, g6, g7, g8⟩ := HX1.out.keep hbd
    clear hbd hb5
    by_cases hin : 0 ≤ t.n ∧ t.n ≤ 0
    · have hd : decide (0 ≤ t.n ∧ t.n ≤ 0) = true := decide_eq_true hin
      have HIN := Lib.hid hin
      clear hin
      go_wp2_with fail
      refine (in_any _ _ _ _).mono ?_
      rintro e w' ⟨rfl, rfl⟩
      go_wp2_with fail
      refine (HNM.out _).mono ?_
      rintro e w9 ⟨r, hr, rfl, hb9⟩
      have HR9 := Lib.hid hr
      have HB9 := Lib.hid (HBW.out.trans (hb9.mono HBW.out.size))
      clear hr hb9
      go_wp2_with fail
      go_ret
      exact ⟨_, HR9.out.trans ⟨fun h => ⟨⟨fun _ => HVT.out, fun _ => Or.inr HK.out⟩, Or.inl (Or.inr HK.out), ⟨fun _ => HVR0.out, fun _ => HK.out⟩, Or.inl HK.out, by rw [Tm.most, if_neg (by have := HK.out; omega), if_neg (by have := HK.out; omega)]; exact HIN.out, h⟩, fun h => h.names⟩, rfl, HB9.out⟩
    · have hd : decide (0 ≤ t.n ∧ t.n ≤ 0) = false := decide_eq_false hin
      have HIN := Lib.hid hin
      clear hin
      go_wp2_with fail
      refine (in_any _ _ _ _).mono ?_
      rintro e w' ⟨rfl, rfl⟩
      go_wp2_with fail
      go_ret
      exact ⟨_, lit_f (fun h => HIN.out (by have := h.n; rwa [Tm.most, if_neg (by have := HK.out; omega), if_neg (by have := HK.out; omega)] at this)), rfl, HBW.out⟩
end Go.Proofs.YtdofjnjiandcbaaDoor
/- TmFieldsOth: The contract of the model's l5Fields: one sort of kinds. -/
namespace Go.Proofs.YtdofjnjiandcbaaDoor
open Go Go.RowKit

set_option maxRecDepth 100000 in
set_option maxHeartbeats 8000000 in
theorem fieldsSOth {C : Nat → Prop} (t : Tm) (tp : Option Addr) (tc : Nat) (rp : Option Addr) (rc : Nat) (p : Option Addr) (c : Nat) (w : World) (hT : TM' w C t tp tc rp rc p c) (hn : t.wt ≤ 2097152) (k : ¬ t.kind = 6 ∧ ¬ t.kind = 9) :
    Calls Tryd.prog 27 #[tmV t tp tc rp rc p c] w (Tells t.FieldsOk w) := by
  have hw := t.wt_eq
  have n1 : nodesS t.ty.args ≤ 2097152 := by omega
  have n2 : nodesS t.res.args ≤ 2097152 := by omega
  have HB := Lib.hid (al_below w (.cells (tmC t tp tc rp rc p c) 35))
  have HX := Lib.hid (Bx9.new w t tp tc rp rc p c 35)
  have HTY := Lib.hid (fun (W : World) (hW : Below w.heap.size w W) => (⟨_, rfl, hT.ty.keep hW⟩ : TT W C t.ty (.agg #[.int .i64 t.ty.kind, .slice tp t.ty.args.length tc])))
  have HRS := Lib.hid (fun (W : World) (hW : Below w.heap.size w W) => (⟨_, rfl, hT.res.keep hW⟩ : TT W C t.res (.agg #[.int .i64 t.res.kind, .slice rp t.res.args.length rc])))
  have HNM := Lib.hid (fun W => namesS_any t tp tc rp rc p c W (by omega) (by omega))
  clear hT hw hn
  cases hvt : t.ty.valid
  all_goals
    cases hvr : t.res.valid
  all_goals
    have HVT := Lib.hid hvt
    have HVR0 := Lib.hid hvr
    have HVTC := Lib.hid (fun W hW => valid_lit (HTY.out W hW) n1 _ HVT.out)
    have HVRC := Lib.hid (fun W hW => valid_lit (HRS.out W hW) n2 _ HVR0.out)
    clear hvt hvr
  all_goals
    go_enter Tryd.func27, Tryd.ntmps27
  · obtain ⟨k6, k9⟩ := k
    have HK6 := Lib.hid k6
    have HK9 := Lib.hid k9
    have e6 : (t.kind == 6) = false := by simpa using k6
    have e9 : (t.kind == 9) = false := by simpa using k9
    have n9 : (t.kind != 9) = true := by simpa using k9
    clear k6 k9
    go_wp2_with fail
    refine (HVTC.out _ HB.out).mono ?_
    rintro e w1 ⟨rfl, hb1⟩
    have HB1 := Lib.hid (HB.out.trans (hb1.mono HB.out.size))
    have HX1 := Lib.hid (HX.out.keep hb1)
    obtain ⟨g0, g1, g2, g3, g4, g5, g6, g7, g8⟩ := HX.out.keep hb1
    clear hb1
    by_cases z1 : t.ty.kind = 0 ∧ t.ty.args.length = 0
    · have HZ1 := Lib.hid z1
      have HZC1 := Lib.hid (fun W => zeroS_yes (p := tp) (c := tc) z1 W)
      clear z1
      go_wp2_with fail
      refine (HZC1.out _).mono ?_
      rintro e w2 ⟨rfl, hb2⟩
      have HB2 := Lib.hid (HB1.out.trans (hb2.mono HB1.out.size))
      have HX2 := Lib.hid (HX1.out.keep hb2)
      clear g0 g1 g2 g3 g4 g5 g6 g7 g8
      obtain ⟨g0, g1, g2, g3, g4, g5, g6, g7, g8⟩ := HX1.out.keep hb2
      clear hb2
      have HVR := Lib.hid (HVRC.out w2.drew HB2.out.drew)
      by_cases z2 : t.res.kind = 0 ∧ t.res.args.length = 0
      · have HZ2 := Lib.hid z2
        have HZC := Lib.hid (fun W => zeroS_yes (p := rp) (c := rc) z2 W)
        clear z2
        go_wp2_with fail
        go_region_held3 (fun w' => w'.cell? ⟨w.heap.size, 0, none⟩ = some (.int .i64 t.kind) ∧ w'.cell? ⟨w.heap.size, 6, none⟩ = some (.int .i64 t.res.kind) ∧ w'.cell? ⟨w.heap.size, 7, none⟩ = some (.slice rp t.res.args.length rc) ∧ Below w.heap.size w w')
          (first
            | (go_keep; done)
            | exact ⟨g0, g6, g7, HB2.out.drew⟩
            | exact keepR hb6 (by assumption)
            | exact keepR hb5 (by assumption))
          (first
            | (go_at_call 42; refine HVR.out.mono ?_; rintro e w5 ⟨rfl, hb5⟩)
            | (go_at_call 43; refine (HZC.out _).mono ?_; rintro e w6 ⟨rfl, hb6⟩))
        rename_i hH
        clear hH
        have hbd : Below w2.heap.size w2 _ := ((Below.refl _ _).drew.trans hb5).trans (hb6.mono (by have := hb5.size; exact this))
        have HBW := Lib.hid (HB2.out.trans (hbd.mono HB2.out.size))
        clear g0 g1 g2 g3 g4 g5 g6 g7 g8
        obtain ⟨g0, g1, g2, g3, g4, g5, g6, g7, g8⟩ := HX2.out.keep hbd
        clear hbd hb5 hb6
        by_cases m2 : t.kind = 2
        · have HM2 := Lib.hid m2
          have ma := Int.le_of_eq m2
          have mb := Int.le_of_eq m2.symm
          clear m2
          by_cases hin : 0 ≤ t.n ∧ t.n ≤ 10006
          · have hd : decide (0 ≤ t.n ∧ t.n ≤ 10006) = true := decide_eq_true hin
            have HIN := Lib.hid hin
            clear hin
            go_wp2_with fail
            refine (in_any _ _ _ _).mono ?_
            rintro e w' ⟨rfl, rfl⟩
            go_wp2_with fail
            refine (HNM.out _).mono ?_
            rintro e w9 ⟨r, hr, rfl, hb9⟩
            have HR9 := Lib.hid hr
            have HB9 := Lib.hid (HBW.out.trans (hb9.mono HBW.out.size))
            clear hr hb9
            go_wp2_with fail
            go_ret
            exact ⟨_, HR9.out.trans ⟨fun h => ⟨⟨fun e => e.elim (fun e => absurd e HK6.out) (fun e => absurd e HK9.out), fun e => by rw [HVT.out] at e; cases e⟩, Or.inr HZ1.out, ⟨(fun e => absurd e HK9.out), fun e => by rw [HVR0.out] at e; cases e⟩, Or.inr HZ2.out, by rw [Tm.most, if_pos HM2.out]; exact HIN.out, h⟩, fun h => h.names⟩, rfl, HB9.out⟩
          · have hd : decide (0 ≤ t.n ∧ t.n ≤ 10006) = false := decide_eq_false hin
            have HIN := Lib.hid hin
            clear hin
            go_wp2_with fail
            refine (in_any _ _ _ _).mono ?_
            rintro e w' ⟨rfl, rfl⟩
            go_wp2_with fail
            go_ret
            exact ⟨_, lit_f (fun h => HIN.out (by have := h.n; rwa [Tm.most, if_pos HM2.out] at this)), rfl, HBW.out⟩
        have HM2 := Lib.hid m2
        by_cases m3 : t.kind = 3
        · have HM3 := Lib.hid m3
          have ma := Int.le_of_eq m3
          have mb := Int.le_of_eq m3.symm
          clear m3
          by_cases hin : 0 ≤ t.n ∧ t.n ≤ 1
          · have hd : decide (0 ≤ t.n ∧ t.n ≤ 1) = true := decide_eq_true hin
            have HIN := Lib.hid hin
            clear hin
            go_wp2_with fail
            refine (in_any _ _ _ _).mono ?_
            rintro e w' ⟨rfl, rfl⟩
            go_wp2_with fail
            refine (HNM.out _).mono ?_
            rintro e w9 ⟨r, hr, rfl, hb9⟩
            have HR9 := Lib.hid hr
            have HB9 := Lib.hid (HBW.out.trans (hb9.mono HBW.out.size))
            clear hr hb9
            go_wp2_with fail
            go_ret
            exact ⟨_, HR9.out.trans ⟨fun h => ⟨⟨fun e => e.elim (fun e => absurd e HK6.out) (fun e => absurd e HK9.out), fun e => by rw [HVT.out] at e; cases e⟩, Or.inr HZ1.out, ⟨(fun e => absurd e HK9.out), fun e => by rw [HVR0.out] at e; cases e⟩, Or.inr HZ2.out, by rw [Tm.most, if_neg HM2.out, if_pos HM3.out]; exact HIN.out, h⟩, fun h => h.names⟩, rfl, HB9.out⟩
          · have hd : decide (0 ≤ t.n ∧ t.n ≤ 1) = false := decide_eq_false hin
            have HIN := Lib.hid hin
            clear hin
            go_wp2_with fail
            refine (in_any _ _ _ _).mono ?_
            rintro e w' ⟨rfl, rfl⟩
            go_wp2_with fail
            go_ret
            exact ⟨_, lit_f (fun h => HIN.out (by have := h.n; rwa [Tm.most, if_neg HM2.out, if_pos HM3.out] at this)), rfl, HBW.out⟩
        have HM3 := Lib.hid m3
        by_cases hin : 0 ≤ t.n ∧ t.n ≤ 0
        · have hd : decide (0 ≤ t.n ∧ t.n ≤ 0) = true := decide_eq_true hin
          have HIN := Lib.hid hin
          clear hin
          go_wp2_with fail
          refine (in_any _ _ _ _).mono ?_
          rintro e w' ⟨rfl, rfl⟩
          go_wp2_with fail
          refine (HNM.out _).mono ?_
          rintro e w9 ⟨r, hr, rfl, hb9⟩
          have HR9 := Lib.hid hr
          have HB9 := Lib.hid (HBW.out.trans (hb9.mono HBW.out.size))
          clear hr hb9
          go_wp2_with fail
          go_ret
          exact ⟨_, HR9.out.trans ⟨fun h => ⟨⟨fun e => e.elim (fun e => absurd e HK6.out) (fun e => absurd e HK9.out), fun e => by rw [HVT.out] at e; cases e⟩, Or.inr HZ1.out, ⟨(fun e => absurd e HK9.out), fun e => by rw [HVR0.out] at e; cases e⟩, Or.inr HZ2.out, by rw [Tm.most, if_neg HM2.out, if_neg HM3.out]; exact HIN.out, h⟩, fun h => h.names⟩, rfl, HB9.out⟩
        · have hd : decide (0 ≤ t.n ∧ t.n ≤ 0) = false := decide_eq_false hin
          have HIN := Lib.hid hin
          clear hin
          go_wp2_with fail
          refine (in_any _ _ _ _).mono ?_
          rintro e w' ⟨rfl, rfl⟩
          go_wp2_with fail
          go_ret
          exact ⟨_, lit_f (fun h => HIN.out (by have := h.n; rwa [Tm.most, if_neg HM2.out, if_neg HM3.out] at this)), rfl, HBW.out⟩
      · have HZ2 := Lib.hid z2
        have HZC := Lib.hid (fun W => zeroS_no (p := rp) (c := rc) z2 W)
        clear z2
        go_wp2_with fail
        go_region_held3 (fun w' => w'.cell? ⟨w.heap.size, 0, none⟩ = some (.int .i64 t.kind) ∧ w'.cell? ⟨w.heap.size, 6, none⟩ = some (.int .i64 t.res.kind) ∧ w'.cell? ⟨w.heap.size, 7, none⟩ = some (.slice rp t.res.args.length rc) ∧ Below w.heap.size w w')
          (first
            | (go_keep; done)
            | exact ⟨g0, g6, g7, HB2.out.drew⟩
            | exact keepR hb6 (by assumption)
            | exact keepR hb5 (by assumption))
          (first
            | (go_at_call 42; refine HVR.out.mono ?_; rintro e w5 ⟨rfl, hb5⟩)
            | (go_at_call 43; refine (HZC.out _).mono ?_; rintro e w6 ⟨rfl, hb6⟩))
        rename_i hH
        clear hH
        have hbd : Below w2.heap.size w2 _ := ((Below.refl _ _).drew.trans hb5).trans (hb6.mono (by have := hb5.size; exact this))
        have HBW := Lib.hid (HB2.out.trans (hbd.mono HB2.out.size))
        clear g0 g1 g2 g3 g4 g5 g6 g7 g8
        obtain ⟨g0, g1, g2, g3, g4, g5, g6, g7, g8⟩ := HX2.out.keep hbd
        clear hbd hb5 hb6
        go_wp2_with fail
        go_ret
        exact ⟨_, lit_f (fun h => h.res2.elim HK9.out HZ2.out), rfl, HBW.out⟩
    · have HZ1 := Lib.hid z1
      have HZC1 := Lib.hid (fun W => zeroS_no (p := tp) (c := tc) z1 W)
      clear z1
      go_wp2_with fail
      refine (HZC1.out _).mono ?_
      rintro e w2 ⟨rfl, hb2⟩
      have HB2 := Lib.hid (HB1.out.trans (hb2.mono HB1.out.size))
      have HX2 := Lib.hid (HX1.out.keep hb2)
      clear g0 g1 g2 g3 g4 g5 g6 g7 g8
      obtain ⟨g0, g1, g2, g3, g4, g5, g6, g7, g8⟩ := HX1.out.keep hb2
      clear hb2
      go_wp2_with fail
      go_ret
      exact ⟨_, lit_f (fun h => h.ty2.elim (fun e => e.elim HK6.out HK9.out) HZ1.out), rfl, HB2.out⟩
  · obtain ⟨k6, k9⟩ := k
    have HK6 := Lib.hid k6
    have HK9 := Lib.hid k9
    have e6 : (t.kind == 6) = false := by simpa using k6
    have e9 : (t.kind == 9) = false := by simpa using k9
    have n9 : (t.kind != 9) = true := by simpa using k9
    clear k6 k9
    go_wp2_with fail
    refine (HVTC.out _ HB.out).mono ?_
    rintro e w1 ⟨rfl, hb1⟩
    have HB1 := Lib.hid (HB.out.trans (hb1.mono HB.out.size))
    have HX1 := Lib.hid (HX.out.keep hb1)
    obtain ⟨g0, g1, g2, g3, g4, g5, g6, g7, g8⟩ := HX.out.keep hb1
    clear hb1
    by_cases z1 : t.ty.kind = 0 ∧ t.ty.args.length = 0
    · have HZ1 := Lib.hid z1
      have HZC1 := Lib.hid (fun W => zeroS_yes (p := tp) (c := tc) z1 W)
      clear z1
      go_wp2_with fail
      refine (HZC1.out _).mono ?_
      rintro e w2 ⟨rfl, hb2⟩
      have HB2 := Lib.hid (HB1.out.trans (hb2.mono HB1.out.size))
      have HX2 := Lib.hid (HX1.out.keep hb2)
      clear g0 g1 g2 g3 g4 g5 g6 g7 g8
      obtain ⟨g0, g1, g2, g3, g4, g5, g6, g7, g8⟩ := HX1.out.keep hb2
      clear hb2
      have HVR := Lib.hid (HVRC.out w2.drew HB2.out.drew)
      go_wp2_with fail
      refine wp_region_noPanic ?_
      refine wp_region_held_drew (S := (fun w' => w'.cell? ⟨w.heap.size, 0, none⟩ = some (.int .i64 t.kind) ∧ w'.cell? ⟨w.heap.size, 6, none⟩ = some (.int .i64 t.res.kind) ∧ w'.cell? ⟨w.heap.size, 7, none⟩ = some (.slice rp t.res.args.length rc) ∧ Below w.heap.size w w')) (by kernel_rfl) ?_ (fun hHeld => ?_)
      · try dsimp only
        exact ⟨g0, g6, g7, HB2.out.drew⟩
      refine wpAnyH_take (i := 0) (oi := ({ dst := some 28, op := Op.fieldAddr 35 (Operand.tmp 1) 0, type := 0, pos := "l05_term.go:67", after := #[], guard := none } : Oper)) (v := ?_) rfl (by kernel_rfl) (by kernel_rfl) (by kernel_rfl) (fun _ _ _ h => h) (Or.inl ⟨by rfl, ?_⟩) (by assumption) ?_
      rotate_left
      · intro w hSw
        try dsimp only at hSw
        go_simp
        try with_reducible rfl
      try simp only [Act.put, List.setIfInBounds_toArray, List.set_cons_zero, List.set_cons_succ]
      refine wpAnyH_take (i := 1) (oi := ({ dst := some 29, op := Op.load 3 (Operand.tmp 28), type := 3, pos := "l05_term.go:67", after := #[{ on := 0, ground := Ground.data }], guard := none } : Oper)) (v := ?_) rfl (by kernel_rfl) (by kernel_rfl) (by kernel_rfl) (fun _ _ _ h => h) (Or.inl ⟨by rfl, ?_⟩) (by assumption) ?_
      rotate_left
      · intro w hSw
        try dsimp only at hSw
        go_simp
        try with_reducible rfl
      try simp only [Act.put, List.setIfInBounds_toArray, List.set_cons_zero, List.set_cons_succ]
      refine wpAnyH_take (i := 2) (oi := ({ dst := some 30, op := Op.binOp BinOp.eql 3 (Operand.tmp 29) (Operand.const (Value.int IntKind.i64 9)) 3, type := 4, pos := "l05_term.go:67", after := #[{ on := 1, ground := Ground.data }], guard := none } : Oper)) (v := ?_) rfl (by kernel_rfl) (by kernel_rfl) (by kernel_rfl) (fun _ _ _ h => h) (Or.inl ⟨by rfl, ?_⟩) (by assumption) ?_
      rotate_left
      · intro w hSw
        try dsimp only at hSw
        go_simp
        try with_reducible rfl
      try simp only [Act.put, List.setIfInBounds_toArray, List.set_cons_zero, List.set_cons_succ]
      refine wpAnyH_take (i := 3) (oi := ({ dst := some 31, op := Op.fieldAddr 35 (Operand.tmp 1) 5, type := 0, pos := "l05_term.go:67", after := #[], guard := none } : Oper)) (v := ?_) rfl (by kernel_rfl) (by kernel_rfl) (by kernel_rfl) (fun _ _ _ h => h) (Or.inl ⟨by rfl, ?_⟩) (by assumption) ?_
      rotate_left
      · intro w hSw
        try dsimp only at hSw
        go_simp
        try with_reducible rfl
      try simp only [Act.put, List.setIfInBounds_toArray, List.set_cons_zero, List.set_cons_succ]
      refine wpAnyH_take (i := 4) (oi := ({ dst := some 32, op := Op.load 32 (Operand.tmp 31), type := 32, pos := "l05_term.go:67", after := #[{ on := 3, ground := Ground.data }], guard := none } : Oper)) (v := ?_) rfl (by kernel_rfl) (by kernel_rfl) (by kernel_rfl) (fun _ _ _ h => h) (Or.inl ⟨by rfl, ?_⟩) (by assumption) ?_
      rotate_left
      · intro w hSw
        try dsimp only at hSw
        go_simp
        try with_reducible rfl
      try simp only [Act.put, List.setIfInBounds_toArray, List.set_cons_zero, List.set_cons_succ]
      refine wpAnyH_ready (rs := [5]) (by kernel_rfl) (by simp) ?_
      refine AllReadyH.cons (o := ({ dst := some 33, op := Op.call { callee := Callee.value (Operand.func 42), args := #[Operand.tmp 32], argTypes := #[32] }, type := 4, pos := "l05_term.go:67", after := #[{ on := 4, ground := Ground.data }], guard := none } : Oper)) rfl (fun K hK => ?_) AllReadyH.nil
      go_simp
      (go_at_call 42; refine HVR.out.mono ?_; rintro e w5 ⟨rfl, hb5⟩)
      refine hK.out _ _ ?_ (fun hHeld1 => ?_)
      · try dsimp only
        exact keepR hb5 (by assumption)
      clear hK K
      try simp only [Act.put, List.setIfInBounds_toArray, List.set_cons_zero, List.set_cons_succ]
      refine wpAnyH_take (i := 6) (oi := ({ dst := some 34, op := Op.binOp BinOp.neq 4 (Operand.tmp 30) (Operand.tmp 33) 4, type := 4, pos := "l05_term.go:67", after := #[{ on := 2, ground := Ground.data }, { on := 5, ground := Ground.data }], guard := none } : Oper)) (v := ?_) rfl (by kernel_rfl) (by kernel_rfl) (by kernel_rfl) (fun _ _ _ h => h) (Or.inl ⟨by rfl, ?_⟩) (by assumption) ?_
      rotate_left
      · intro w hSw
        try dsimp only at hSw
        go_simp
        try with_reducible rfl
      try simp only [Act.put, List.setIfInBounds_toArray, List.set_cons_zero, List.set_cons_succ]
      refine wpAnyH_take (i := 7) (oi := ({ dst := some 35, op := Op.move (Operand.tmp 34), type := 4, pos := "l05_term.go:67", after := #[{ on := 6, ground := Ground.data }, { on := 5, ground := Ground.chain }], guard := none } : Oper)) (v := ?_) rfl (by kernel_rfl) (by kernel_rfl) (by kernel_rfl) (fun _ _ _ h => h) (Or.inl ⟨by rfl, ?_⟩) (by assumption) ?_
      rotate_left
      · intro w hSw
        try dsimp only at hSw
        go_simp
        try with_reducible rfl
      try simp only [Act.put, List.setIfInBounds_toArray, List.set_cons_zero, List.set_cons_succ]
      refine wpAnyH_take (i := 8) (oi := ({ dst := some 36, op := Op.fieldAddr 35 (Operand.tmp 1) 0, type := 0, pos := "l05_term.go:67", after := #[{ on := 7, ground := Ground.guard }], guard := some (7, false) } : Oper)) (v := undef) rfl (by kernel_rfl) (by kernel_rfl) (by kernel_rfl) (fun _ _ _ h => h) (Or.inr ⟨by rfl, rfl⟩) (by assumption) ?_
      try simp only [Act.put, List.setIfInBounds_toArray, List.set_cons_zero, List.set_cons_succ]
      refine wpAnyH_take (i := 9) (oi := ({ dst := some 37, op := Op.load 3 (Operand.tmp 36), type := 3, pos := "l05_term.go:67", after := #[{ on := 8, ground := Ground.data }, { on := 7, ground := Ground.guard }], guard := some (7, false) } : Oper)) (v := undef) rfl (by kernel_rfl) (by kernel_rfl) (by kernel_rfl) (fun _ _ _ h => h) (Or.inr ⟨by rfl, rfl⟩) (by assumption) ?_
      try simp only [Act.put, List.setIfInBounds_toArray, List.set_cons_zero, List.set_cons_succ]
      refine wpAnyH_take (i := 10) (oi := ({ dst := some 38, op := Op.binOp BinOp.neq 3 (Operand.tmp 37) (Operand.const (Value.int IntKind.i64 9)) 3, type := 4, pos := "l05_term.go:67", after := #[{ on := 9, ground := Ground.data }, { on := 7, ground := Ground.guard }], guard := some (7, false) } : Oper)) (v := undef) rfl (by kernel_rfl) (by kernel_rfl) (by kernel_rfl) (fun _ _ _ h => h) (Or.inr ⟨by rfl, rfl⟩) (by assumption) ?_
      try simp only [Act.put, List.setIfInBounds_toArray, List.set_cons_zero, List.set_cons_succ]
      refine wpAnyH_take (i := 11) (oi := ({ dst := some 39, op := Op.move (Operand.tmp 38), type := 4, pos := "l05_term.go:67", after := #[{ on := 10, ground := Ground.data }, { on := 7, ground := Ground.chain }, { on := 7, ground := Ground.guard }], guard := some (7, false) } : Oper)) (v := undef) rfl (by kernel_rfl) (by kernel_rfl) (by kernel_rfl) (fun _ _ _ h => h) (Or.inr ⟨by rfl, rfl⟩) (by assumption) ?_
      try simp only [Act.put, List.setIfInBounds_toArray, List.set_cons_zero, List.set_cons_succ]
      refine wpAnyH_take (i := 12) (oi := ({ dst := some 40, op := Op.fieldAddr 35 (Operand.tmp 1) 5, type := 0, pos := "l05_term.go:67", after := #[{ on := 11, ground := Ground.guard }], guard := some (11, true) } : Oper)) (v := undef) rfl (by kernel_rfl) (by kernel_rfl) (by kernel_rfl) (fun _ _ _ h => h) (Or.inr ⟨by rfl, rfl⟩) (by assumption) ?_
      try simp only [Act.put, List.setIfInBounds_toArray, List.set_cons_zero, List.set_cons_succ]
      refine wpAnyH_take (i := 13) (oi := ({ dst := some 41, op := Op.load 32 (Operand.tmp 40), type := 32, pos := "l05_term.go:67", after := #[{ on := 12, ground := Ground.data }, { on := 11, ground := Ground.guard }], guard := some (11, true) } : Oper)) (v := undef) rfl (by kernel_rfl) (by kernel_rfl) (by kernel_rfl) (fun _ _ _ h => h) (Or.inr ⟨by rfl, rfl⟩) (by assumption) ?_
      try simp only [Act.put, List.setIfInBounds_toArray, List.set_cons_zero, List.set_cons_succ]
      refine wpAnyH_take (i := 14) (oi := ({ dst := some 42, op := Op.call { callee := Callee.value (Operand.func 43), args := #[Operand.tmp 41], argTypes := #[32] }, type := 4, pos := "l05_term.go:67", after := #[{ on := 13, ground := Ground.data }, { on := 11, ground := Ground.chain }, { on := 11, ground := Ground.guard }], guard := some (11, true) } : Oper)) (v := undef) rfl (by kernel_rfl) (by kernel_rfl) (by kernel_rfl) (fun _ _ _ h => h) (Or.inr ⟨by rfl, rfl⟩) (by assumption) ?_
      try simp only [Act.put, List.setIfInBounds_toArray, List.set_cons_zero, List.set_cons_succ]
      refine wpAnyH_take (i := 15) (oi := ({ dst := some 43, op := Op.unOp UnOp.not 4 (Operand.tmp 42), type := 4, pos := "l05_term.go:67", after := #[{ on := 14, ground := Ground.data }, { on := 11, ground := Ground.guard }], guard := some (11, true) } : Oper)) (v := undef) rfl (by kernel_rfl) (by kernel_rfl) (by kernel_rfl) (fun _ _ _ h => h) (Or.inr ⟨by rfl, rfl⟩) (by assumption) ?_
      try simp only [Act.put, List.setIfInBounds_toArray, List.set_cons_zero, List.set_cons_succ]
      refine wpAnyH_take (i := 16) (oi := ({ dst := some 44, op := Op.pick (Operand.tmp 39) (Operand.tmp 43) (Operand.const (Value.bool false)), type := 4, pos := "l05_term.go:67", after := #[{ on := 11, ground := Ground.data }, { on := 15, ground := Ground.data }, { on := 7, ground := Ground.guard }], guard := some (7, false) } : Oper)) (v := undef) rfl (by kernel_rfl) (by kernel_rfl) (by kernel_rfl) (fun _ _ _ h => h) (Or.inr ⟨by rfl, rfl⟩) (by assumption) ?_
      try simp only [Act.put, List.setIfInBounds_toArray, List.set_cons_zero, List.set_cons_succ]
      refine wpAnyH_take (i := 17) (oi := ({ dst := some 45, op := Op.pick (Operand.tmp 35) (Operand.const (Value.bool true)) (Operand.tmp 44), type := 4, pos := "l05_term.go:67", after := #[{ on := 7, ground := Ground.data }, { on := 16, ground := Ground.data }], guard := none } : Oper)) (v := ?_) rfl (by kernel_rfl) (by kernel_rfl) (by kernel_rfl) (fun _ _ _ h => h) (Or.inl ⟨by rfl, ?_⟩) (by assumption) ?_
      rotate_left
      · intro w hSw
        try dsimp only at hSw
        go_simp
        try with_reducible rfl
      try simp only [Act.put, List.setIfInBounds_toArray, List.set_cons_zero, List.set_cons_succ]
      refine wpAnyH_done (by kernel_rfl) ?_ _
      refine NoPanic.normal ?_
      clear hHeld hHeld1
      have HBW := Lib.hid (HB2.out.trans (((Below.refl _ _).drew.trans hb5).mono HB2.out.size))
      clear hb5
      go_wp2_with fail
      go_ret
      exact ⟨_, lit_f (fun h => by have := h.res1.2 HVR0.out; exact HK9.out this), rfl, HBW.out⟩
    · have HZ1 := Lib.hid z1
      have HZC1 := Lib.hid (fun W => zeroS_no (p := tp) (c := tc) z1 W)
      clear z1
      go_wp2_with fail
      refine (HZC1.out _).mono ?_
      rintro e w2 ⟨rfl, hb2⟩
      have HB2 := Lib.hid (HB1.out.trans (hb2.mono HB1.out.size))
      have HX2 := Lib.hid (HX1.out.keep hb2)
      clear g0 g1 g2 g3 g4 g5 g6 g7 g8
      obtain ⟨g0, g1, g2, g3, g4, g5, g6, g7, g8⟩ := HX1.out.keep hb2
      clear hb2
      go_wp2_with fail
      go_ret
      exact ⟨_, lit_f (fun h => h.ty2.elim (fun e => e.elim HK6.out HK9.out) HZ1.out), rfl, HB2.out⟩
  · obtain ⟨k6, k9⟩ := k
    have HK6 := Lib.hid k6
    have HK9 := Lib.hid k9
    have e6 : (t.kind == 6) = false := by simpa using k6
    have e9 : (t.kind == 9) = false := by simpa using k9
    have n9 : (t.kind != 9) = true := by simpa using k9
    clear k6 k9
    go_wp2_with fail
    refine (HVTC.out _ HB.out).mono ?_
    rintro e w1 ⟨rfl, hb1⟩
    have HB1 := Lib.hid (HB.out.trans (hb1.mono HB.out.size))
    have HX1 := Lib.hid (HX.out.keep hb1)
    obtain ⟨g0, g1, g2, g3, g4, g5, g6, g7, g8⟩ := HX.out.keep hb1
    clear hb1
    go_wp2_with fail
    go_ret
    exact ⟨_, lit_f (fun h => (h.ty1.2 HVT.out).elim HK6.out HK9.out), rfl, HB1.out⟩
  · obtain ⟨k6, k9⟩ := k
    have HK6 := Lib.hid k6
    have HK9 := Lib.hid k9
    have e6 : (t.kind == 6) = false := by simpa using k6
    have e9 : (t.kind == 9) = false := by simpa using k9
    have n9 : (t.kind != 9) = true := by simpa using k9
    clear k6 k9
    go_wp2_with fail
    refine (HVTC.out _ HB.out).mono ?_
    rintro e w1 ⟨rfl, hb1⟩
    have HB1 := Lib.hid (HB.out.trans (hb1.mono HB.out.size))
    have HX1 := Lib.hid (HX.out.keep hb1)
    obtain ⟨g0, g1, g2, g3, g4, g5, g6, g7, g8⟩ := HX.out.keep hb1
    clear hb1
    go_wp2_with fail
    go_ret
    exact ⟨_, lit_f (fun h => (h.ty1.2 HVT.out).elim HK6.out HK9.out), rfl, HB1.out⟩
end Go.Proofs.YtdofjnjiandcbaaDoor
/- TmFields: The contract of the model's l5Fields: the fields of a node are those of its kind. -/
namespace Go.Proofs.YtdofjnjiandcbaaDoor
open Go Go.RowKit

theorem fieldsS_any {C : Nat → Prop} (t : Tm) (tp : Option Addr) (tc : Nat) (rp : Option Addr) (rc : Nat) (p : Option Addr) (c : Nat) (w : World) (hT : TM' w C t tp tc rp rc p c) (hn : t.wt ≤ 2097152) :
    Calls Tryd.prog 27 #[tmV t tp tc rp rc p c] w (Tells t.FieldsOk w) := by
  rcases (show t.kind = 6 ∨ t.kind = 9 ∨ (¬ t.kind = 6 ∧ ¬ t.kind = 9) by omega) with k | k | k
  · exact fieldsSSix t tp tc rp rc p c w hT hn k
  · exact fieldsSNine t tp tc rp rc p c w hT hn k
  · exact fieldsSOth t tp tc rp rc p c w hT hn k
end Go.Proofs.YtdofjnjiandcbaaDoor
/- TmIsT: The contracts of the model's IsTerm and IsValidTerm. -/
namespace Go.Proofs.YtdofjnjiandcbaaDoor
open Go Go.RowKit

mutual
/-- Every node has one of the forms. -/
def Tm.IsT : Tm → Prop
  | .mk k a b n t r ts => IsTS ts ∧ (Tm.mk k a b n t r ts).FieldsOk ∧ (ts.length : Int) = (Tm.mk k a b n t r ts).arity
def IsTS : List Tm → Prop
  | [] => True
  | t :: ts => t.IsT ∧ IsTS ts
end
theorem Tm.IsT_eq (t : Tm) : t.IsT ↔ IsTS t.args ∧ t.FieldsOk ∧ (t.args.length : Int) = t.arity := by cases t; simp only [Tm.IsT, Tm.args]
theorem IsTS_append (a b : List Tm) : IsTS (a ++ b) ↔ IsTS a ∧ IsTS b := by
  induction a with
  | nil => simp [IsTS]
  | cons x a ih => simp only [List.cons_append, IsTS, ih, and_assoc]
theorem IsTS_take (ts : List Tm) (k : Nat) (h : k < ts.length) : IsTS (ts.take (k + 1)) ↔ IsTS (ts.take k) ∧ ts[k].IsT := by
  rw [tm_take_next h, IsTS_append]; simp [IsTS]
theorem IsTS_at (ts : List Tm) (k : Nat) (h : k < ts.length) (hs : IsTS ts) : ts[k].IsT := by
  have := (IsTS_append (ts.take (k + 1)) (ts.drop (k + 1))).1 (by rw [List.take_append_drop]; exact hs)
  exact ((IsTS_take ts k h).1 this.1).2
theorem keepN' {W w1 : World} {p : Addr} {v : Value} (hb1 : Below W.heap.size W w1) (h : W.cell? p = some v) : w1.cell? p = some v := (hb1.cell (World.block_lt_of_cell? W _ h)).trans h
theorem keep9m {w W w1 : World} {p0 p1 p2 p3 p4 p5 p6 p7 p8 : Addr} {v0 v1 v2 v3 v4 v5 v6 v7 v8 : Value} (hb1 : Below W.heap.size W w1) (h : W.cell? p0 = some v0 ∧ W.cell? p1 = some v1 ∧ W.cell? p2 = some v2 ∧ W.cell? p3 = some v3 ∧ W.cell? p4 = some v4 ∧ W.cell? p5 = some v5 ∧ W.cell? p6 = some v6 ∧ W.cell? p7 = some v7 ∧ W.cell? p8 = some v8 ∧ Below w.heap.size w W) : w1.cell? p0 = some v0 ∧ w1.cell? p1 = some v1 ∧ w1.cell? p2 = some v2 ∧ w1.cell? p3 = some v3 ∧ w1.cell? p4 = some v4 ∧ w1.cell? p5 = some v5 ∧ w1.cell? p6 = some v6 ∧ w1.cell? p7 = some v7 ∧ w1.cell? p8 = some v8 ∧ Below w.heap.size w w1 := by
  obtain ⟨h0, h1, h2, h3, h4, h5, h6, h7, h8, hz⟩ := h
  exact ⟨keepN' hb1 h0, keepN' hb1 h1, keepN' hb1 h2, keepN' hb1 h3, keepN' hb1 h4, keepN' hb1 h5, keepN' hb1 h6, keepN' hb1 h7, keepN' hb1 h8, hz.trans (hb1.mono hz.size)⟩
theorem fields_yes {C : Nat → Prop} {t : Tm} {tp rp p : Option Addr} {tc rc c : Nat} {w : World} (hT : TM' w C t tp tc rp rc p c) (hn : t.wt ≤ 2097152) (h : t.FieldsOk) :
    Calls Tryd.prog 27 #[tmV t tp tc rp rc p c] w fun e w' => e = .returned (.bool true) ∧ Below w.heap.size w w' := by
  refine (fieldsS_any t tp tc rp rc p c w hT hn).mono ?_
  rintro e w' ⟨r, hr, rfl, hw⟩
  exact ⟨by rw [hr.2 h], hw⟩
theorem fields_no {C : Nat → Prop} {t : Tm} {tp rp p : Option Addr} {tc rc c : Nat} {w : World} (hT : TM' w C t tp tc rp rc p c) (hn : t.wt ≤ 2097152) (h : ¬ t.FieldsOk) :
    Calls Tryd.prog 27 #[tmV t tp tc rp rc p c] w fun e w' => e = .returned (.bool false) ∧ Below w.heap.size w w' := by
  refine (fieldsS_any t tp tc rp rc p c w hT hn).mono ?_
  rintro e w' ⟨r, hr, rfl, hw⟩
  exact ⟨by rw [Bool.eq_false_iff.2 (fun e => h (hr.1 e))], hw⟩

set_option maxRecDepth 100000 in
set_option maxHeartbeats 4000000 in
theorem isTM_any {C : Nat → Prop} : ∀ (m : Nat) {t : Tm} {tp : Option Addr} {tc : Nat} {rp : Option Addr} {rc : Nat} {p : Option Addr} {c : Nat} (w : World), t.nodes ≤ m → TM' w C t tp tc rp rc p c → t.wt ≤ 2097152 → Calls Tryd.prog 14 #[tmV t tp tc rp rc p c] w (Tells t.IsT w)
  | 0, t, tp, tc, rp, rc, p, c, w, hm, hT, hn => by rw [t.nodes_eq] at hm; omega
  | m + 1, t, tp, tc, rp, rc, p, c, w, hm, hT, hn => by
    have HT := Lib.hid hT
    have HX0 := Lib.hid (Bx9.new w t tp tc rp rc p c 35)
    have HB0 := Lib.hid (al_below w (.cells (tmC t tp tc rp rc p c) 35))
    have hne := t.nodes_eq
    have hwe := t.wt_eq
    have hlen := wtS_ge t.args
    have HM := Lib.hid hm
    have HNE := Lib.hid hne
    have HNW := Lib.hid hn
    have HIE := Lib.hid t.IsT_eq
    have hwa : wtS t.args ≤ 2097152 := by omega
    clear hT hne hwe hm hn
    go_enter Tryd.func14, Tryd.ntmps14
    go_wp2_with fail
    go_loopw [3] (fun i wr => ∃ (k : Nat), k ≤ t.args.length ∧ i = .int .i64 k ∧ IsTS (t.args.take k) ∧ Below (w.alloc (.cells (tmC t tp tc rp rc p c) 35)).heap.size (w.alloc (.cells (tmC t tp tc rp rc p c) 35)) wr) (fun i _ => t.args.length - (intOf i).toNat)
    case atStart => exact ⟨0, Nat.zero_le _, rfl, by simp [IsTS], Below.refl _ _⟩
    case round =>
      obtain ⟨k, hk, rfl, hts, hbr⟩ := hrel
      have HTS := Lib.hid hts
      have HBR := Lib.hid hbr
      have HBW := Lib.hid (HB0.out.trans (hbr.mono HB0.out.size))
      obtain ⟨d0, d1, d2, d3, d4, d5, d6, d7, d8⟩ := HX0.out.keep hbr
      clear hbr hts
      by_cases hlk : k < t.args.length
      · obtain ⟨b, o, tp2, tc2, rp2, rc2, p2, c2, rfl, hC, hb, h9, hP⟩ := tm_part HT.out.args k hlk
        obtain ⟨g0, g1, g2, g3, g4, g5, g6, g7, g8⟩ := h9 wr (.of_below HBW.out)
        have n4 := nodesM_at t.args k hlk
        have n5 := wtS_at t.args k hlk
        have hmk : t.args[k].nodes ≤ m := by have := HM.out; have := HNE.out; omega
        have hi0 : (0 : Int) ≤ (k : Int) := Int.natCast_nonneg _
        have hi1 : (k : Int) < (t.args.length : Int) := by omega
        have HC := Lib.hid (isTM_any m wr hmk (hP.stays (.of_below HBW.out)) (by omega))
        clear hC hb h9 hP n4 n5 hmk d0 d1 d2 d3 d4 d5 d6 d7
        go_wp2_with fail
        refine HC.out.mono ?_
        rintro e w1 ⟨r, hr, rfl, hb1⟩
        have HB1 := Lib.hid (HBR.out.trans (hb1.mono HBR.out.size))
        have HR := Lib.hid hr
        clear hb1 hr
        cases hr0 : r
        · have hnf : ¬ t.args[k].IsT := fun h => by have := HR.out.2 h; rw [hr0] at this; cases this
          have HF := Lib.hid hnf
          clear hnf
          subst hr0
          go_wp2_with fail
          go_ret
          exact ⟨_, lit_f (fun h => HF.out (IsTS_at _ k hlk (HIE.out.1 h).1)), rfl, box_rest HB1.out⟩
        · have HF := Lib.hid (HR.out.1 hr0)
          subst hr0
          go_wp2_with fail
          go_roundw
          case rel => exact ⟨k + 1, by omega, by go_num, (IsTS_take _ k hlk).2 ⟨HTS.out, HF.out⟩, HB1.out⟩
          case measure => simp [intOf]; omega
      · obtain rfl : k = t.args.length := by omega
        have hall := HTS.out
        rw [List.take_length] at hall
        have HALL := Lib.hid hall
        clear hall
        by_cases hf : t.FieldsOk
        · have HFC := Lib.hid (fields_yes (w := wr.drew) (C := C) (HT.out.stays (.of_below HBW.out.drew)) HNW.out hf)
          have HF := Lib.hid hf
          clear hf
          go_wp2_with fail
          go_region_held3 (fun w' => w'.cell? ⟨w.heap.size, 0, none⟩ = some (.int .i64 t.kind) ∧ w'.cell? ⟨w.heap.size, 1, none⟩ = some (.string t.name) ∧ w'.cell? ⟨w.heap.size, 2, none⟩ = some (.string t.other) ∧ w'.cell? ⟨w.heap.size, 3, none⟩ = some (.int .i64 t.n) ∧ w'.cell? ⟨w.heap.size, 4, none⟩ = some (.int .i64 t.ty.kind) ∧ w'.cell? ⟨w.heap.size, 5, none⟩ = some (.slice tp t.ty.args.length tc) ∧ w'.cell? ⟨w.heap.size, 6, none⟩ = some (.int .i64 t.res.kind) ∧ w'.cell? ⟨w.heap.size, 7, none⟩ = some (.slice rp t.res.args.length rc) ∧ w'.cell? ⟨w.heap.size, 8, none⟩ = some (.slice p t.args.length c) ∧ Below w.heap.size w w')
            (first
              | (go_keep; done)
              | exact ⟨d0, d1, d2, d3, d4, d5, d6, d7, d8, HBW.out.drew⟩
              | exact keep9m hb6 (by assumption)
              | exact keep9m hb5 (by assumption))
            (first
              | (go_at_call 27; refine HFC.out.mono ?_; rintro e w5 ⟨rfl, hb5⟩)
              | (go_at_call 28; refine (arityS_any t tp tc rp rc p c _).mono ?_; rintro e w6 ⟨rfl, hb6⟩))
          rename_i hH
          have HB7 := Lib.hid hH.2.2.2.2.2.2.2.2.2
          clear hH hb5 hb6
          by_cases har : (t.args.length : Int) = t.arity
          · have HA := Lib.hid har
            have har1 : ((t.args.length : Int) == t.arity) = true := by rw [beq_iff_eq]; exact har
            clear har
            go_wp2_with fail
            go_ret
            exact ⟨_, lit_t (HIE.out.2 ⟨HALL.out, HF.out, HA.out⟩), (by first | rfl | (rw [har1]; rfl)), HB7.out⟩
          · have HA := Lib.hid har
            have har1 : ((t.args.length : Int) == t.arity) = false := by rw [beq_eq_false_iff_ne]; exact har
            clear har
            go_wp2_with fail
            go_ret
            exact ⟨_, lit_f (fun h => HA.out (HIE.out.1 h).2.2), (by first | rfl | (rw [har1]; rfl)), HB7.out⟩
        · have HFC := Lib.hid (fields_no (w := wr.drew) (C := C) (HT.out.stays (.of_below HBW.out.drew)) HNW.out hf)
          have HF := Lib.hid hf
          clear hf
          go_wp2_with fail
          refine wp_region_noPanic ?_
          refine wp_region_held_drew (S := (fun w' => w'.cell? ⟨w.heap.size, 0, none⟩ = some (.int .i64 t.kind) ∧ w'.cell? ⟨w.heap.size, 1, none⟩ = some (.string t.name) ∧ w'.cell? ⟨w.heap.size, 2, none⟩ = some (.string t.other) ∧ w'.cell? ⟨w.heap.size, 3, none⟩ = some (.int .i64 t.n) ∧ w'.cell? ⟨w.heap.size, 4, none⟩ = some (.int .i64 t.ty.kind) ∧ w'.cell? ⟨w.heap.size, 5, none⟩ = some (.slice tp t.ty.args.length tc) ∧ w'.cell? ⟨w.heap.size, 6, none⟩ = some (.int .i64 t.res.kind) ∧ w'.cell? ⟨w.heap.size, 7, none⟩ = some (.slice rp t.res.args.length rc) ∧ w'.cell? ⟨w.heap.size, 8, none⟩ = some (.slice p t.args.length c) ∧ Below w.heap.size w w')) (by kernel_rfl) ?_ (fun hHeld => ?_)
          · try dsimp only
            exact ⟨d0, d1, d2, d3, d4, d5, d6, d7, d8, HBW.out.drew⟩
          refine wpAnyH_take (i := 0) (oi := ({ dst := some 18, op := Op.load 35 (Operand.tmp 1), type := 35, pos := "l05_term.go:86", after := #[], guard := none } : Oper)) (v := ?_) rfl (by kernel_rfl) (by kernel_rfl) (by kernel_rfl) (fun _ _ _ h => h) (Or.inl ⟨by rfl, ?_⟩) (by assumption) ?_
          rotate_left
          · intro w hSw
            try dsimp only at hSw
            go_simp
            try with_reducible rfl
          try simp only [Act.put, List.setIfInBounds_toArray, List.set_cons_zero, List.set_cons_succ]
          refine wpAnyH_ready (rs := [1]) (by kernel_rfl) (by simp) ?_
          refine AllReadyH.cons (o := ({ dst := some 19, op := Op.call { callee := Callee.value (Operand.func 27), args := #[Operand.tmp 18], argTypes := #[35] }, type := 4, pos := "l05_term.go:86", after := #[{ on := 0, ground := Ground.data }], guard := none } : Oper)) rfl (fun K hK => ?_) AllReadyH.nil
          go_simp
          (go_at_call 27; refine HFC.out.mono ?_; rintro e w5 ⟨rfl, hb5⟩)
          refine hK.out _ _ ?_ (fun hHeld1 => ?_)
          · try dsimp only
            exact keep9m hb5 (by assumption)
          clear hK K
          try simp only [Act.put, List.setIfInBounds_toArray, List.set_cons_zero, List.set_cons_succ]
          refine wpAnyH_take (i := 2) (oi := ({ dst := some 20, op := Op.move (Operand.tmp 19), type := 4, pos := "l05_term.go:86", after := #[{ on := 1, ground := Ground.data }, { on := 1, ground := Ground.chain }], guard := none } : Oper)) (v := ?_) rfl (by kernel_rfl) (by kernel_rfl) (by kernel_rfl) (fun _ _ _ h => h) (Or.inl ⟨by rfl, ?_⟩) (by assumption) ?_
          rotate_left
          · intro w hSw
            try dsimp only at hSw
            go_simp
            try with_reducible rfl
          try simp only [Act.put, List.setIfInBounds_toArray, List.set_cons_zero, List.set_cons_succ]
          refine wpAnyH_take (i := 3) (oi := ({ dst := some 21, op := Op.fieldAddr 35 (Operand.tmp 1) 6, type := 0, pos := "l05_term.go:86", after := #[{ on := 2, ground := Ground.guard }], guard := some (2, true) } : Oper)) (v := undef) rfl (by kernel_rfl) (by kernel_rfl) (by kernel_rfl) (fun _ _ _ h => h) (Or.inr ⟨by rfl, rfl⟩) (by assumption) ?_
          try simp only [Act.put, List.setIfInBounds_toArray, List.set_cons_zero, List.set_cons_succ]
          refine wpAnyH_take (i := 4) (oi := ({ dst := some 22, op := Op.load 33 (Operand.tmp 21), type := 33, pos := "l05_term.go:86", after := #[{ on := 3, ground := Ground.data }, { on := 2, ground := Ground.guard }], guard := some (2, true) } : Oper)) (v := undef) rfl (by kernel_rfl) (by kernel_rfl) (by kernel_rfl) (fun _ _ _ h => h) (Or.inr ⟨by rfl, rfl⟩) (by assumption) ?_
          try simp only [Act.put, List.setIfInBounds_toArray, List.set_cons_zero, List.set_cons_succ]
          refine wpAnyH_take (i := 5) (oi := ({ dst := some 23, op := Op.call { callee := Callee.builtin Builtin.len, args := #[Operand.tmp 22], argTypes := #[33] }, type := 3, pos := "l05_term.go:86", after := #[{ on := 4, ground := Ground.data }, { on := 2, ground := Ground.guard }], guard := some (2, true) } : Oper)) (v := undef) rfl (by kernel_rfl) (by kernel_rfl) (by kernel_rfl) (fun _ _ _ h => h) (Or.inr ⟨by rfl, rfl⟩) (by assumption) ?_
          try simp only [Act.put, List.setIfInBounds_toArray, List.set_cons_zero, List.set_cons_succ]
          refine wpAnyH_take (i := 6) (oi := ({ dst := some 24, op := Op.load 35 (Operand.tmp 1), type := 35, pos := "l05_term.go:86", after := #[{ on := 2, ground := Ground.guard }], guard := some (2, true) } : Oper)) (v := undef) rfl (by kernel_rfl) (by kernel_rfl) (by kernel_rfl) (fun _ _ _ h => h) (Or.inr ⟨by rfl, rfl⟩) (by assumption) ?_
          try simp only [Act.put, List.setIfInBounds_toArray, List.set_cons_zero, List.set_cons_succ]
          refine wpAnyH_take (i := 7) (oi := ({ dst := some 25, op := Op.call { callee := Callee.value (Operand.func 28), args := #[Operand.tmp 24], argTypes := #[35] }, type := 3, pos := "l05_term.go:86", after := #[{ on := 6, ground := Ground.data }, { on := 2, ground := Ground.chain }, { on := 2, ground := Ground.guard }], guard := some (2, true) } : Oper)) (v := undef) rfl (by kernel_rfl) (by kernel_rfl) (by kernel_rfl) (fun _ _ _ h => h) (Or.inr ⟨by rfl, rfl⟩) (by assumption) ?_
          try simp only [Act.put, List.setIfInBounds_toArray, List.set_cons_zero, List.set_cons_succ]
          refine wpAnyH_take (i := 8) (oi := ({ dst := some 26, op := Op.binOp BinOp.eql 3 (Operand.tmp 23) (Operand.tmp 25) 3, type := 4, pos := "l05_term.go:86", after := #[{ on := 5, ground := Ground.data }, { on := 7, ground := Ground.data }, { on := 2, ground := Ground.guard }], guard := some (2, true) } : Oper)) (v := undef) rfl (by kernel_rfl) (by kernel_rfl) (by kernel_rfl) (fun _ _ _ h => h) (Or.inr ⟨by rfl, rfl⟩) (by assumption) ?_
          try simp only [Act.put, List.setIfInBounds_toArray, List.set_cons_zero, List.set_cons_succ]
          refine wpAnyH_take (i := 9) (oi := ({ dst := some 27, op := Op.pick (Operand.tmp 20) (Operand.tmp 26) (Operand.const (Value.bool false)), type := 4, pos := "l05_term.go:86", after := #[{ on := 2, ground := Ground.data }, { on := 8, ground := Ground.data }], guard := none } : Oper)) (v := ?_) rfl (by kernel_rfl) (by kernel_rfl) (by kernel_rfl) (fun _ _ _ h => h) (Or.inl ⟨by rfl, ?_⟩) (by assumption) ?_
          rotate_left
          · intro w hSw
            try dsimp only at hSw
            go_simp
            try with_reducible rfl
          try simp only [Act.put, List.setIfInBounds_toArray, List.set_cons_zero, List.set_cons_succ]
          refine wpAnyH_take (i := 10) (oi := ({ dst := some 2, op := Op.assign (Operand.tmp 27), type := 4, pos := "l05_term.go:86", after := #[{ on := 9, ground := Ground.data }, { on := 7, ground := Ground.chain }, { on := 0, ground := Ground.phase }, { on := 1, ground := Ground.phase }, { on := 2, ground := Ground.phase }, { on := 3, ground := Ground.phase }, { on := 4, ground := Ground.phase }, { on := 5, ground := Ground.phase }, { on := 6, ground := Ground.phase }, { on := 7, ground := Ground.phase }, { on := 8, ground := Ground.phase }, { on := 9, ground := Ground.phase }], guard := none } : Oper)) (v := ?_) rfl (by kernel_rfl) (by kernel_rfl) (by kernel_rfl) (fun _ _ _ h => h) (Or.inl ⟨by rfl, ?_⟩) (by assumption) ?_
          rotate_left
          · intro w hSw
            try dsimp only at hSw
            go_simp
            try with_reducible rfl
          try simp only [Act.put, List.setIfInBounds_toArray, List.set_cons_zero, List.set_cons_succ]
          refine wpAnyH_done (by kernel_rfl) ?_ _
          refine NoPanic.normal ?_
          clear hHeld hHeld1
          have HB7 := Lib.hid (HBW.out.trans (((Below.refl _ _).drew.trans hb5).mono HBW.out.size))
          clear hb5
          go_wp2_with fail
          go_ret
          exact ⟨_, lit_f (fun h => HF.out (HIE.out.1 h).2.1), rfl, HB7.out⟩
end Go.Proofs.YtdofjnjiandcbaaDoor
/- TmText: The text of a term, as the model writes it; how long it may be. Of no program. -/
namespace Go.Proofs.YtdofjnjiandcbaaDoor
open Go Go.RowKit

def hd (ps : List (List UInt8)) : List UInt8 := ps.headD []
/-- The text of a node out of its own fields and the texts of its parts. -/
def txN (k : Int) (a o : List UInt8) (n : Int) (ty res : List UInt8) (ps : List (List UInt8)) : List UInt8 :=
  if k = 1 then a
  else if k = 2 then Lib.itoa n
  else if k = 3 then [35, if n = 1 then 116 else 102]
  else if k = 4 then (if ps.length = 1 then 40 :: 33 :: (hd ps ++ [41]) else 40 :: (hd ps ++ (a ++ (hd ps.tail ++ [41]))))
  else if k = 10 then 60 :: (hd ps ++ [62])
  else if k = 11 then 126 :: hd ps
  else if k = 5 then 40 :: 105 :: 102 :: 32 :: (Lib.join ps [32] ++ [41])
  else if k = 6 then 40 :: 92 :: (a ++ 58 :: (ty ++ 46 :: (hd ps ++ [41])))
  else if k = 7 then 40 :: (Lib.join ps [32] ++ [41])
  else if k = 8 then 40 :: 108 :: 101 :: 116 :: 32 :: (a ++ 61 :: (Lib.join ps [32] ++ [41]))
  else if k = 9 then 40 :: 114 :: 101 :: 99 :: 32 :: (a ++ 32 :: (o ++ 58 :: (ty ++ 62 :: (res ++ 46 :: (hd ps ++ [41])))))
  else if k = 12 then 40 :: 114 :: 117 :: 110 :: 32 :: (hd ps ++ [41])
  else 40 :: 108 :: 105 :: 102 :: 116 :: 32 :: (hd ps ++ [41])
mutual
def Tm.text : Tm → List UInt8
  | .mk k a o n ty res ts => txN k a.data.toList o.data.toList n ty.text res.text (textsM ts)
def textsM : List Tm → List (List UInt8)
  | [] => []
  | t :: ts => t.text :: textsM ts
end
theorem Tm.text_eq (t : Tm) : t.text = txN t.kind t.name.data.toList t.other.data.toList t.n t.ty.text t.res.text (textsM t.args) := by cases t; simp only [Tm.text, Tm.kind, Tm.name, Tm.other, Tm.n, Tm.ty, Tm.res, Tm.args]
theorem textsM_map (ts : List Tm) : textsM ts = ts.map Tm.text := by
  induction ts with
  | nil => rfl
  | cons t ts ih => rw [textsM, ih]; rfl
theorem textsM_len (ts : List Tm) : (textsM ts).length = ts.length := by rw [textsM_map, List.length_map]
def sumL (ps : List (List UInt8)) : Nat := (ps.map List.length).sum
theorem hd_le (ps : List (List UInt8)) : (hd ps).length ≤ sumL ps := by
  cases ps <;> simp [hd, sumL]
theorem tl_le (ps : List (List UInt8)) : (hd ps).length + (hd ps.tail).length ≤ sumL ps := by
  match ps with
  | [] => simp [hd, sumL]
  | [a] => simp [hd, sumL]
  | a :: b :: r => simp [hd, sumL]
theorem joinTail_len (r : List (List UInt8)) (sep : List UInt8) : (Lib.joinTail sep r).length = sumL r + r.length * sep.length := by
  induction r with
  | nil => simp [Lib.joinTail, sumL]
  | cons x r ih =>
    simp only [Lib.joinTail, sumL, List.map_cons, List.flatten_cons, List.length_append, List.sum_cons, List.length_cons] at ih ⊢
    rw [ih, Nat.add_mul]
    omega
theorem join_len (ps : List (List UInt8)) : (Lib.join ps [32]).length ≤ sumL ps + ps.length := by
  cases ps with
  | nil => simp [Lib.join_nil]
  | cons x r =>
    rw [Lib.join_cons, List.length_append, joinTail_len]
    simp [sumL]
    omega
theorem txN_le {k : Int} {a o : List UInt8} {n : Int} {ty res : List UInt8} {ps : List (List UInt8)} (hn : 0 ≤ n ∧ n ≤ 10006) (hp : ps.length ≤ 3) :
    (txN k a o n ty res ps).length ≤ 24 + a.length + o.length + (if k = 6 ∨ k = 9 then ty.length else 0) + (if k = 9 then res.length else 0) + sumL ps := by
  have h1 := hd_le ps
  have h2 := tl_le ps
  have h3 := join_len ps
  have h4 := Lib.itoa_length_le n (by omega) (by omega)
  unfold txN
  by_cases k1 : k = 1
  · rw [if_pos k1]
    omega
  rw [if_neg k1]
  by_cases k2 : k = 2
  · rw [if_pos k2]
    omega
  rw [if_neg k2]
  by_cases k3 : k = 3
  · rw [if_pos k3]
    simp only [List.length_cons, List.length_nil]
    omega
  rw [if_neg k3]
  by_cases k4 : k = 4
  · rw [if_pos k4]
    by_cases l1 : ps.length = 1
    · rw [if_pos l1]
      simp only [List.length_cons, List.length_append, List.length_nil]
      omega
    · rw [if_neg l1]
      simp only [List.length_cons, List.length_append, List.length_nil]
      omega
  rw [if_neg k4]
  by_cases k10 : k = 10
  · rw [if_pos k10]
    simp only [List.length_cons, List.length_append, List.length_nil]
    omega
  rw [if_neg k10]
  by_cases k11 : k = 11
  · rw [if_pos k11, List.length_cons]
    omega
  rw [if_neg k11]
  by_cases k5 : k = 5
  · rw [if_pos k5]
    simp only [List.length_cons, List.length_append, List.length_nil]
    omega
  rw [if_neg k5]
  by_cases k6 : k = 6
  · rw [if_pos k6, if_pos (Or.inl k6)]
    simp only [List.length_cons, List.length_append, List.length_nil]
    omega
  rw [if_neg k6]
  by_cases k7 : k = 7
  · rw [if_pos k7]
    simp only [List.length_cons, List.length_append, List.length_nil]
    omega
  rw [if_neg k7]
  by_cases k8 : k = 8
  · rw [if_pos k8]
    simp only [List.length_cons, List.length_append, List.length_nil]
    omega
  rw [if_neg k8]
  by_cases k9 : k = 9
  · rw [if_pos k9, if_pos (Or.inr k9), if_pos k9]
    simp only [List.length_cons, List.length_append, List.length_nil]
    omega
  rw [if_neg k9]
  by_cases k12 : k = 12
  · rw [if_pos k12]
    simp only [List.length_cons, List.length_append, List.length_nil]
    omega
  rw [if_neg k12]
  simp only [List.length_cons, List.length_append, List.length_nil]
  omega
/-- A node's own fields, where it is of one of the forms. -/
theorem NodeOk.texts {t : Tm} (hf : t.FieldsOk) (ha : (t.args.length : Int) = t.arity) : (0 ≤ t.n ∧ t.n ≤ 10006) ∧ t.args.length ≤ 3 ∧ ((t.kind = 6 ∨ t.kind = 9) → t.ty.valid = true) ∧ (t.kind = 9 → t.res.valid = true) := by
  refine ⟨?_, ?_, hf.ty1.1, hf.res1.1⟩
  · have h := hf.n
    unfold Tm.most at h
    split at h
    · exact h
    · split at h <;> omega
  · have h := (arK_range t.kind _ (opAr_range t.name.toList)).2
    have h2 : t.arity ≤ 3 := h
    omega
mutual
theorem textM_le : ∀ (t : Tm), t.IsT → t.text.length ≤ 32 * (1 + t.wt)
  | .mk k a o n ty res ts, h => by
    obtain ⟨h1, h2, h3⟩ := (Tm.IsT_eq _).1 h
    have hs := textsM_le ts h1
    obtain ⟨q1, q2, q3, q4⟩ := NodeOk.texts h2 h3
    have hl := txN_le (k := k) (a := a.data.toList) (o := o.data.toList) (n := n) (ty := ty.text) (res := res.text) (ps := textsM ts) q1 (by rw [textsM_len]; exact q2)
    have e1 : a.data.toList.length = a.size := rfl
    have e2 : o.data.toList.length = o.size := rfl
    have t1 := ty.nodes_eq
    have t2 := res.nodes_eq
    have l1 : (if k = 6 ∨ k = 9 then ty.text.length else 0) ≤ 3 * (1 + nodesS ty.args) := by
      split
      · rename_i hk
        have hv := (valid_iff ty).1 (q3 hk)
        have := text_le _ ty (Nat.le_refl _) hv.2.2
        omega
      · omega
    have l2 : (if k = 9 then res.text.length else 0) ≤ 3 * (1 + nodesS res.args) := by
      split
      · rename_i hk
        have hv := (valid_iff res).1 (q4 hk)
        have := text_le _ res (Nat.le_refl _) hv.2.2
        omega
      · omega
    simp only [Tm.text, Tm.wt]
    omega
theorem textsM_le : ∀ (ts : List Tm), IsTS ts → sumL (textsM ts) ≤ 32 * wtS ts
  | [], _ => by simp [textsM, sumL]
  | t :: ts, h => by
    have h1 := textM_le t h.1
    have h2 := textsM_le ts h.2
    simp only [textsM, sumL, List.map_cons, List.sum_cons, wtS] at h2 ⊢
    omega
end
end Go.Proofs.YtdofjnjiandcbaaDoor
/- TmShape: The shapes that a term of the forms of chapter 5 may have (gentmparse.py writes this text). Of no program. -/
namespace Go.Proofs.YtdofjnjiandcbaaDoor
open Go Go.RowKit

abbrev E0 : ByteArray := ⟨#[]⟩
abbrev Z0 : Ty := .mk 0 []
inductive Shape : Tm → Prop where
  | var (a : ByteArray) (h : Nm a) : Shape (.mk 1 a E0 0 Z0 Z0 [])
  | int (n : Int) (h0 : 0 ≤ n) (h1 : n ≤ 10006) : Shape (.mk 2 E0 E0 n Z0 Z0 [])
  | bool (n : Int) (h : n = 0 ∨ n = 1) : Shape (.mk 3 E0 E0 n Z0 Z0 [])
  | op1 (a : ByteArray) (ha : a.toList = [33]) (x : Tm) (hx : x.IsT) : Shape (.mk 4 a E0 0 Z0 Z0 [x])
  | op2 (a : ByteArray) (c : UInt8) (ha : a.toList = [c]) (hc : opAr [c] = 2) (x y : Tm) (hx : x.IsT) (hy : y.IsT) : Shape (.mk 4 a E0 0 Z0 Z0 [x, y])
  | cond (x y z : Tm) (hx : x.IsT) (hy : y.IsT) (hz : z.IsT) : Shape (.mk 5 E0 E0 0 Z0 Z0 [x, y, z])
  | lam (a : ByteArray) (h : Nm a) (ty : Ty) (ht : ty.valid = true) (x : Tm) (hx : x.IsT) : Shape (.mk 6 a E0 0 ty Z0 [x])
  | app (x y : Tm) (hx : x.IsT) (hy : y.IsT) : Shape (.mk 7 E0 E0 0 Z0 Z0 [x, y])
  | bind (a : ByteArray) (h : Nm a) (x y : Tm) (hx : x.IsT) (hy : y.IsT) : Shape (.mk 8 a E0 0 Z0 Z0 [x, y])
  | fix (a b : ByteArray) (ha : Nm a) (hb : Nm b) (hab : a ≠ b) (ty res : Ty) (ht : ty.valid = true) (hr : res.valid = true) (x : Tm) (hx : x.IsT) : Shape (.mk 9 a b 0 ty res [x])
  | quote (x : Tm) (hx : x.IsT) : Shape (.mk 10 E0 E0 0 Z0 Z0 [x])
  | splice (x : Tm) (hx : x.IsT) : Shape (.mk 11 E0 E0 0 Z0 Z0 [x])
  | run (x : Tm) (hx : x.IsT) : Shape (.mk 12 E0 E0 0 Z0 Z0 [x])
  | lift (x : Tm) (hx : x.IsT) : Shape (.mk 13 E0 E0 0 Z0 Z0 [x])
theorem emp_eq {a : ByteArray} (h : a.toList = []) : a = E0 := by
  rw [ByteArray.toList_eq] at h
  apply ByteArray.ext
  exact Array.toList_inj.1 h
theorem zero_eq {t : Ty} (h : zeroT t) : t = Z0 := by
  obtain ⟨k, ts⟩ := t
  obtain ⟨h1, h2⟩ := h
  simp only [Ty.kind_mk, Ty.args_mk] at h1 h2
  rw [h1, List.eq_nil_of_length_eq_zero h2]
theorem one_of {ts : List Tm} (h : ts.length = 1) : ∃ x, ts = [x] := by
  match ts, h with
  | [x], _ => exact ⟨x, rfl⟩
theorem two_of {ts : List Tm} (h : ts.length = 2) : ∃ x y, ts = [x, y] := by
  match ts, h with
  | [x, y], _ => exact ⟨x, y, rfl⟩
theorem three_of {ts : List Tm} (h : ts.length = 3) : ∃ x y z, ts = [x, y, z] := by
  match ts, h with
  | [x, y, z], _ => exact ⟨x, y, z, rfl⟩
theorem opAr_one {l : List UInt8} (h : opAr l = 1) : l = [33] := by
  unfold opAr at h
  repeat' split at h
  all_goals first | assumption | omega
theorem opAr_two {l : List UInt8} (h : opAr l = 2) : ∃ c, l = [c] ∧ opAr [c] = 2 := by
  have h0 := h
  unfold opAr at h
  repeat' split at h
  all_goals first | omega | exact ⟨_, by assumption, by decide⟩
theorem shape {t : Tm} (h : t.IsT) : Shape t := by
  obtain ⟨hs, hf, ha⟩ := (Tm.IsT_eq t).1 h
  obtain ⟨k, a, b, n, ty, res, ts⟩ := t
  have hnm := hf.names
  have hn := hf.n
  have hty := hf.ty2
  have hres := hf.res2
  have hv1 := hf.ty1
  have hv2 := hf.res1
  simp only [Tm.arity, Tm.kind, Tm.name, Tm.n, Tm.ty, Tm.res, Tm.args, Tm.most] at ha hn hty hres hv1 hv2 hs
  by_cases hk : k < 1 ∨ 13 < k
  · exfalso
    have : arK k (opAr a.toList) = -1 := by
      unfold arK
      rw [if_neg (by omega), if_neg (by omega), if_neg (by omega), if_neg (by omega), if_neg (by omega), if_neg (by omega), if_neg (by omega), if_neg (by omega), if_neg (by omega), if_neg (by omega), if_neg (by omega), if_neg (by omega), if_neg (by omega)]
    omega
  rcases (show k = 1 ∨ k = 2 ∨ k = 3 ∨ k = 4 ∨ k = 5 ∨ k = 6 ∨ k = 7 ∨ k = 8 ∨ k = 9 ∨ k = 10 ∨ k = 11 ∨ k = 12 ∨ k = 13 by omega) with rfl | rfl | rfl | rfl | rfl | rfl | rfl | rfl | rfl | rfl | rfl | rfl | rfl
  · -- 1
    have hl : ts = [] := by simp only [arK] at ha; simp at ha; exact ha
    have hn0 : n = 0 := by simp at hn; omega
    have z1 := zero_eq (hty.resolve_left (by decide))
    have z2 := zero_eq (hres.resolve_left (by decide))
    obtain ⟨h1, h2⟩ := (names_1 (by simp [Tm.kind]) (by simp [Tm.kind])).1 hnm
    have e2 := emp_eq h2
    subst hl hn0 z1 z2
    simp only [Tm.name, Tm.other] at h1 e2
    subst e2
    exact .var a h1
  · -- 2
    have hl : ts = [] := by simp only [arK] at ha; simp at ha; exact ha
    have z1 := zero_eq (hty.resolve_left (by decide))
    have z2 := zero_eq (hres.resolve_left (by decide))
    obtain ⟨h1, h2⟩ := (names_0 (by simp [Tm.kind]) (by simp [Tm.kind]) (by simp [Tm.kind])).1 hnm
    have e1 := emp_eq h1
    have e2 := emp_eq h2
    subst hl z1 z2
    simp only [Tm.name, Tm.other] at e1 e2
    subst e1 e2
    simp at hn
    exact .int n hn.1 hn.2
  · -- 3
    have hl : ts = [] := by simp only [arK] at ha; simp at ha; exact ha
    have z1 := zero_eq (hty.resolve_left (by decide))
    have z2 := zero_eq (hres.resolve_left (by decide))
    obtain ⟨h1, h2⟩ := (names_0 (by simp [Tm.kind]) (by simp [Tm.kind]) (by simp [Tm.kind])).1 hnm
    have e1 := emp_eq h1
    have e2 := emp_eq h2
    subst hl z1 z2
    simp only [Tm.name, Tm.other] at e1 e2
    subst e1 e2
    simp at hn
    exact .bool n (by omega)
  · -- 4
    have hn0 : n = 0 := by simp at hn; omega
    have z1 := zero_eq (hty.resolve_left (by decide))
    have z2 := zero_eq (hres.resolve_left (by decide))
    obtain ⟨h1, h2⟩ := (names_4 (by simp [Tm.kind])).1 hnm
    have e2 := emp_eq h2
    subst hn0 z1 z2
    simp only [Tm.name, Tm.other] at h1 e2
    subst e2
    have hr := opAr_range a.toList
    have ha2 : (ts.length : Int) = opAr a.toList := by rw [ha]; simp [arK]
    rcases (show ts.length = 1 ∨ ts.length = 2 by omega) with hl | hl
    · obtain ⟨x, rfl⟩ := one_of hl
      obtain ⟨hx, -⟩ := hs
      exact .op1 a (opAr_one (by rw [← ha2, hl]; rfl)) x hx
    · obtain ⟨x, y, rfl⟩ := two_of hl
      obtain ⟨hx, hy, -⟩ := hs
      obtain ⟨c, hc, hc2⟩ := opAr_two (l := a.toList) (by rw [← ha2, hl]; rfl)
      exact .op2 a c hc hc2 x y hx hy
  · -- 5
    have hl : ts.length = 3 := by simp only [arK] at ha; simp at ha; omega
    obtain ⟨x, y, z, rfl⟩ := three_of hl
    obtain ⟨hx, hy, hz, -⟩ := hs
    have hn0 : n = 0 := by simp at hn; omega
    have z1 := zero_eq (hty.resolve_left (by decide))
    have z2 := zero_eq (hres.resolve_left (by decide))
    obtain ⟨h1, h2⟩ := (names_0 (by simp [Tm.kind]) (by simp [Tm.kind]) (by simp [Tm.kind])).1 hnm
    have e1 := emp_eq h1
    have e2 := emp_eq h2
    subst hn0 z1 z2
    simp only [Tm.name, Tm.other] at e1 e2
    subst e1 e2
    exact .cond x y z hx hy hz
  · -- 6
    have hl : ts.length = 1 := by simp only [arK] at ha; simp at ha; omega
    obtain ⟨x, rfl⟩ := one_of hl
    obtain ⟨hx, -⟩ := hs
    have hn0 : n = 0 := by simp at hn; omega
    have z2 := zero_eq (hres.resolve_left (by decide))
    obtain ⟨h1, h2⟩ := (names_1 (by simp [Tm.kind]) (by simp [Tm.kind])).1 hnm
    have e2 := emp_eq h2
    have hv := hv1.1 (Or.inl rfl)
    subst hn0 z2
    simp only [Tm.name, Tm.other] at h1 e2
    subst e2
    exact .lam a h1 ty hv x hx
  · -- 7
    have hl : ts.length = 2 := by simp only [arK] at ha; simp at ha; omega
    obtain ⟨x, y, rfl⟩ := two_of hl
    obtain ⟨hx, hy, -⟩ := hs
    have hn0 : n = 0 := by simp at hn; omega
    have z1 := zero_eq (hty.resolve_left (by decide))
    have z2 := zero_eq (hres.resolve_left (by decide))
    obtain ⟨h1, h2⟩ := (names_0 (by simp [Tm.kind]) (by simp [Tm.kind]) (by simp [Tm.kind])).1 hnm
    have e1 := emp_eq h1
    have e2 := emp_eq h2
    subst hn0 z1 z2
    simp only [Tm.name, Tm.other] at e1 e2
    subst e1 e2
    exact .app x y hx hy
  · -- 8
    have hl : ts.length = 2 := by simp only [arK] at ha; simp at ha; omega
    obtain ⟨x, y, rfl⟩ := two_of hl
    obtain ⟨hx, hy, -⟩ := hs
    have hn0 : n = 0 := by simp at hn; omega
    have z1 := zero_eq (hty.resolve_left (by decide))
    have z2 := zero_eq (hres.resolve_left (by decide))
    obtain ⟨h1, h2⟩ := (names_1 (by simp [Tm.kind]) (by simp [Tm.kind])).1 hnm
    have e2 := emp_eq h2
    subst hn0 z1 z2
    simp only [Tm.name, Tm.other] at h1 e2
    subst e2
    exact .bind a h1 x y hx hy
  · -- 9
    have hl : ts.length = 1 := by simp only [arK] at ha; simp at ha; omega
    obtain ⟨x, rfl⟩ := one_of hl
    obtain ⟨hx, -⟩ := hs
    have hn0 : n = 0 := by simp at hn; omega
    obtain ⟨h1, h2, h3⟩ := (names_9 (by simp [Tm.kind]) (by simp [Tm.kind]) (by simp [Tm.kind])).1 hnm
    have hv := hv1.1 (Or.inr rfl)
    have hw := hv2.1 rfl
    subst hn0
    exact .fix a b h1 h2 h3 ty res hv hw x hx
  · -- 10
    have hl : ts.length = 1 := by simp only [arK] at ha; simp at ha; omega
    obtain ⟨x, rfl⟩ := one_of hl
    obtain ⟨hx, -⟩ := hs
    have hn0 : n = 0 := by simp at hn; omega
    have z1 := zero_eq (hty.resolve_left (by decide))
    have z2 := zero_eq (hres.resolve_left (by decide))
    obtain ⟨h1, h2⟩ := (names_0 (by simp [Tm.kind]) (by simp [Tm.kind]) (by simp [Tm.kind])).1 hnm
    have e1 := emp_eq h1
    have e2 := emp_eq h2
    subst hn0 z1 z2
    simp only [Tm.name, Tm.other] at e1 e2
    subst e1 e2
    exact .quote x hx
  · -- 11
    have hl : ts.length = 1 := by simp only [arK] at ha; simp at ha; omega
    obtain ⟨x, rfl⟩ := one_of hl
    obtain ⟨hx, -⟩ := hs
    have hn0 : n = 0 := by simp at hn; omega
    have z1 := zero_eq (hty.resolve_left (by decide))
    have z2 := zero_eq (hres.resolve_left (by decide))
    obtain ⟨h1, h2⟩ := (names_0 (by simp [Tm.kind]) (by simp [Tm.kind]) (by simp [Tm.kind])).1 hnm
    have e1 := emp_eq h1
    have e2 := emp_eq h2
    subst hn0 z1 z2
    simp only [Tm.name, Tm.other] at e1 e2
    subst e1 e2
    exact .splice x hx
  · -- 12
    have hl : ts.length = 1 := by simp only [arK] at ha; simp at ha; omega
    obtain ⟨x, rfl⟩ := one_of hl
    obtain ⟨hx, -⟩ := hs
    have hn0 : n = 0 := by simp at hn; omega
    have z1 := zero_eq (hty.resolve_left (by decide))
    have z2 := zero_eq (hres.resolve_left (by decide))
    obtain ⟨h1, h2⟩ := (names_0 (by simp [Tm.kind]) (by simp [Tm.kind]) (by simp [Tm.kind])).1 hnm
    have e1 := emp_eq h1
    have e2 := emp_eq h2
    subst hn0 z1 z2
    simp only [Tm.name, Tm.other] at e1 e2
    subst e1 e2
    exact .run x hx
  · -- 13
    have hl : ts.length = 1 := by simp only [arK] at ha; simp at ha; omega
    obtain ⟨x, rfl⟩ := one_of hl
    obtain ⟨hx, -⟩ := hs
    have hn0 : n = 0 := by simp at hn; omega
    have z1 := zero_eq (hty.resolve_left (by decide))
    have z2 := zero_eq (hres.resolve_left (by decide))
    obtain ⟨h1, h2⟩ := (names_0 (by simp [Tm.kind]) (by simp [Tm.kind]) (by simp [Tm.kind])).1 hnm
    have e1 := emp_eq h1
    have e2 := emp_eq h2
    subst hn0 z1 z2
    simp only [Tm.name, Tm.other] at e1 e2
    subst e1 e2
    exact .lift x hx
end Go.Proofs.YtdofjnjiandcbaaDoor
/- Num: Plain facts about decimal numerals, of no program: how digits are gathered, what a numeral's bytes are, reading back what was written. -/
namespace Go.Proofs.YtdofjnjiandcbaaDoor
open Go

/-- The digits of m, none for 0. -/
def dec (m : Nat) : List UInt8 := if m = 0 then [] else Lib.decDigits m

theorem dec_zero : dec 0 = [] := rfl
theorem dec_pos {m : Nat} (h : 1 ≤ m) : dec m = Lib.decDigits m := by unfold dec; rw [if_neg (by omega)]
theorem dec_step {m : Nat} (h : 1 ≤ m) : dec (m / 10) ++ [UInt8.ofNat (48 + m % 10)] = dec m := by
  rw [dec_pos h, Lib.decDigits]
  by_cases hm : m < 10
  · rw [dif_pos hm, show m / 10 = 0 by omega, dec_zero, Nat.mod_eq_of_lt hm]; rfl
  · rw [dif_neg hm, dec_pos (by omega)]
theorem dec_put {m : Nat} (h : 1 ≤ m) {l r : List UInt8} (hl : dec m ++ l = r) : dec (m / 10) ++ (UInt8.ofNat (48 + m % 10) :: l) = r := by
  rw [← hl, ← dec_step h, List.append_assoc]; rfl

theorem nDigits_le : ∀ (k u : Nat), 1 ≤ k → u < 10 ^ k → Lib.nDigits u ≤ k
  | 0, _, h, _ => by omega
  | k + 1, u, _, h => by
    by_cases hu : u < 10
    · rw [Lib.nDigits_small hu]; omega
    · rw [Lib.nDigits_big hu]
      have h1 : 1 ≤ k := by
        cases k with
        | zero => simp at h; omega
        | succ k => omega
      have := nDigits_le k (u / 10) h1 (by rw [Nat.pow_succ] at h; omega)
      omega
theorem lt_of_nDigits_le {k u : Nat} (h : Lib.nDigits u ≤ k) : u < 10 ^ k :=
  Nat.lt_of_lt_of_le (Lib.lt_pow_nDigits u) (Nat.pow_le_pow_right (by decide) h)
theorem dec_length_le {u : Nat} (h : u ≤ 9223372036854775808) : (Lib.decDigits u).length ≤ 19 := by
  rw [Lib.decDigits_length]; exact nDigits_le 19 u (by decide) (by simp only [Nat.reducePow]; omega)
theorem itoa_length_le {n : Int} (h0 : -9223372036854775808 ≤ n) (h1 : n ≤ 9223372036854775807) : (Lib.itoa n).length ≤ 20 := by
  unfold Lib.itoa
  split
  · have := dec_length_le (u := n.natAbs) (by omega)
    simp only [List.length_cons]; omega
  · have := dec_length_le (u := n.toNat) (by omega)
    omega

end Go.Proofs.YtdofjnjiandcbaaDoor
/- Read: Plain facts about reading numerals, of no program: what a numeral reads as, and that each number's numeral reads as that number. -/
namespace Go.Proofs.YtdofjnjiandcbaaDoor
open Go

/-- One digit more. -/
def rdA (acc : Nat) (l : List UInt8) : Nat := l.foldl (fun a c => 10 * a + (c.toNat - 48)) acc
def isDig (c : UInt8) : Prop := 48 ≤ c.toNat ∧ c.toNat ≤ 57
instance (c : UInt8) : Decidable (isDig c) := by unfold isDig; infer_instance

theorem rdA_nil (a : Nat) : rdA a [] = a := by simp only [rdA, List.foldl_nil]
theorem rdA_cons (a : Nat) (c : UInt8) (l : List UInt8) : rdA a (c :: l) = rdA (10 * a + (c.toNat - 48)) l := by simp only [rdA, List.foldl_cons]
theorem rdA_snoc (a : Nat) (c : UInt8) (l : List UInt8) : rdA a (l ++ [c]) = 10 * rdA a l + (c.toNat - 48) := by
  simp only [rdA, List.foldl_append, List.foldl_cons, List.foldl_nil]
theorem le_rdA : ∀ (l : List UInt8) (a : Nat), a ≤ rdA a l
  | [], a => Nat.le_refl _
  | c :: l, a => by
    rw [rdA_cons]
    have := le_rdA l (10 * a + (c.toNat - 48))
    omega
theorem rdA_lt (l : List UInt8) (h : ∀ c ∈ l, isDig c) : rdA 0 l < 10 ^ l.length := by
  suffices H : ∀ (l : List UInt8) (a : Nat), (∀ c ∈ l, isDig c) → rdA a l < (a + 1) * 10 ^ l.length by
    have := H l 0 h
    simpa using this
  intro l
  induction l with
  | nil => intro a _; simp [rdA_nil]
  | cons c l ih =>
    intro a h
    rw [rdA_cons, List.length_cons, Nat.pow_succ]
    have hc := h c (List.mem_cons_self ..)
    unfold isDig at hc
    have h1 := ih (10 * a + (c.toNat - 48)) (fun x hx => h x (List.mem_cons_of_mem _ hx))
    have h2 : (10 * a + (c.toNat - 48) + 1) * 10 ^ l.length ≤ ((a + 1) * 10) * 10 ^ l.length := Nat.mul_le_mul_right _ (by omega)
    have h3 : (a + 1) * (10 ^ l.length * 10) = ((a + 1) * 10) * 10 ^ l.length := by
      rw [Nat.mul_comm (10 ^ l.length) 10, Nat.mul_assoc]
    omega

theorem dig_toNat {k : Nat} (h : k < 10) : (UInt8.ofNat (48 + k)).toNat = 48 + k := by simp; omega
theorem dec_digs (u : Nat) : ∀ c ∈ Lib.decDigits u, isDig c := by
  induction u using Nat.strongRecOn with
  | _ u ih =>
    intro c hc
    rw [Lib.decDigits] at hc
    by_cases hu : u < 10
    · rw [dif_pos hu] at hc
      have e : c = UInt8.ofNat (48 + u) := by simpa using hc
      subst e
      unfold isDig
      rw [dig_toNat hu]; omega
    · rw [dif_neg hu] at hc
      rcases List.mem_append.1 hc with h | h
      · exact ih (u / 10) (by omega) c h
      · have e : c = UInt8.ofNat (48 + u % 10) := List.mem_singleton.1 h
        subst e
        unfold isDig
        rw [dig_toNat (by omega)]; omega
theorem rdA_dec (u : Nat) : rdA 0 (Lib.decDigits u) = u := by
  induction u using Nat.strongRecOn with
  | _ u ih =>
    rw [Lib.decDigits]
    by_cases hu : u < 10
    · rw [dif_pos hu, rdA_cons, rdA_nil, dig_toNat hu]; omega
    · rw [dif_neg hu, rdA_snoc, ih (u / 10) (by omega), dig_toNat (by omega)]; omega
theorem dec_ne_nil (u : Nat) : Lib.decDigits u ≠ [] := by
  intro h
  have := Lib.decDigits_length u
  rw [h] at this
  have := Lib.nDigits_pos u
  simp at *
  omega

/-- What a text reads as, a '-' ahead of it or not; of a text that is no numeral nothing is meant. -/
def rd (l : List UInt8) : Int := if l.head? = some 45 then -(rdA 0 l.tail : Int) else rdA 0 l

theorem dec_head (u : Nat) : (Lib.decDigits u).head? ≠ some 45 := by
  intro h
  have := dec_digs u 45 (List.mem_of_mem_head? h)
  unfold isDig at this
  exact absurd this (by decide)
theorem rd_itoa (n : Int) : rd (Lib.itoa n) = n := by
  unfold Lib.itoa
  by_cases hn : n < 0
  · rw [if_pos hn]
    unfold rd
    rw [if_pos (List.head?_cons ..), List.tail_cons, rdA_dec]; omega
  · rw [if_neg hn]
    unfold rd
    rw [if_neg (dec_head _), rdA_dec]; omega

/-- Is the text the numeral of a number from lo to hi? -/
def okNum (lo hi : Int) (l : List UInt8) : Bool := decide (lo ≤ rd l ∧ rd l ≤ hi ∧ Lib.itoa (rd l) = l)
theorem okNum_yes {lo hi : Int} {l : List UInt8} (h : okNum lo hi l = true) : lo ≤ rd l ∧ rd l ≤ hi ∧ Lib.itoa (rd l) = l := of_decide_eq_true h
theorem okNum_no {lo hi : Int} {l : List UInt8} (h : okNum lo hi l = false) : ¬ (lo ≤ rd l ∧ rd l ≤ hi ∧ Lib.itoa (rd l) = l) := of_decide_eq_false h
theorem okNum_mk {lo hi n : Int} {l : List UInt8} (h : Lib.itoa n = l) (h0 : lo ≤ n) (h1 : n ≤ hi) : okNum lo hi l = true := by
  unfold okNum
  rw [← h, rd_itoa]
  exact decide_eq_true ⟨h0, h1, rfl⟩

/-! ### strconv.Atoi gives back what Itoa wrote -/
theorem parse10_digs : ∀ (l : List UInt8) (a : Nat), (∀ c ∈ l, isDig c) → rdA a l < 18446744073709551616 → Lib.parseUint10 a l = .ok (rdA a l)
  | [], a, _, _ => rfl
  | c :: l, a, h, hlt => by
    rw [rdA_cons] at hlt ⊢
    have hc := h c (List.mem_cons_self ..)
    have h1 := le_rdA l (10 * a + (c.toNat - 48))
    unfold isDig at hc
    rw [Lib.parseUint10, if_pos hc, if_neg (by omega), if_neg (by omega), show a * 10 + (c.toNat - 48) = 10 * a + (c.toNat - 48) by omega]
    exact parse10_digs l _ (fun x hx => h x (List.mem_cons_of_mem _ hx)) hlt
theorem parseMag_dec {u : Nat} (h : u < 18446744073709551616) : Lib.parseMag (Lib.decDigits u) = .ok u := by
  unfold Lib.parseMag
  rw [if_neg (dec_ne_nil u), parse10_digs _ 0 (dec_digs u) (by rw [rdA_dec]; exact h), rdA_dec]
theorem atoi_itoa (n : Int) (h0 : -9223372036854775808 ≤ n) (h1 : n ≤ 9223372036854775807) : Lib.atoiAll (Lib.itoa n) = .ok n := by
  unfold Lib.itoa
  by_cases hn : n < 0
  · rw [if_pos hn]
    unfold Lib.atoiAll
    have e1 : (45 : UInt8).toNat = 45 := rfl
    simp only [e1, or_true, if_true, not_true_eq_false, false_and, if_false, true_and]
    rw [parseMag_dec (by omega)]
    dsimp only
    rw [if_neg (by omega)]
    congr 1
    omega
  · rw [if_neg hn]
    have hp := parseMag_dec (u := n.toNat) (by omega)
    have hne := dec_ne_nil n.toNat
    have hd := dec_digs n.toNat
    generalize Lib.decDigits n.toNat = d at *
    cases d with
    | nil => exact absurd rfl hne
    | cons c r =>
      have hc := hd c (List.mem_cons_self ..)
      unfold isDig at hc
      unfold Lib.atoiAll
      have a1 : ¬ c.toNat = 45 := by omega
      have a2 : ¬ c.toNat = 43 := by omega
      simp only [a1, a2, or_self, if_false, not_false_eq_true, true_and, false_and]
      rw [hp]
      dsimp only
      rw [if_neg (by omega)]
      congr 1
      omega
end Go.Proofs.YtdofjnjiandcbaaDoor
/- TmParse: The parser of terms' texts, as the model reads them; a term's text is parsed as that term. Of no program. -/
namespace Go.Proofs.YtdofjnjiandcbaaDoor
open Go Go.RowKit

def mkT (k : Int) (a : List UInt8) (n : Int) (ts : List Tm) : Tm := .mk k ⟨a.toArray⟩ E0 n Z0 Z0 ts
def isW (c : UInt8) : Bool := (decide (48 ≤ c.toNat) && decide (c.toNat ≤ 57)) || (decide (97 ≤ c.toNat) && decide (c.toNat ≤ 122))
/-- The longest word of letters and digits at place i. -/
def word (s : List UInt8) (i : Nat) : List UInt8 := (s.drop i).takeWhile isW
/-- Whether q stands at place i. -/
def pre (q s : List UInt8) (i : Nat) : Bool := q.isPrefixOf (s.drop i)
def kLet : List UInt8 := [108, 101, 116, 32]
def kRec : List UInt8 := [114, 101, 99, 32]
def kIf : List UInt8 := [105, 102, 32]
def kRun : List UInt8 := [114, 117, 110, 32]
def kLift : List UInt8 := [108, 105, 102, 116, 32]
/-- A term ahead of each byte of es. -/
def pts (f : Nat → Option (Tm × Nat)) (s : List UInt8) : List UInt8 → Nat → Option (List Tm × Nat)
  | [], i => some ([], i)
  | e :: es, i => match f i with
    | none => none
    | some (t, j) => if s[j]? = some e then (pts f s es (j + 1)).map (fun r => (t :: r.1, r.2)) else none
def pRest (s : List UInt8) (f : Nat → Option (Tm × Nat)) (x : Tm) (j : Nat) : Option (Tm × Nat) :=
  if s[j]? = some 32 then (pts f s [41] (j + 1)).map fun r => (mkT 7 [] 0 (x :: r.1), r.2)
  else match s[j]? with
    | none => none
    | some c => if opAr [c] = 2 then (pts f s [41] (j + 1)).map fun r => (mkT 4 [c] 0 (x :: r.1), r.2) else none
def pLam (s : List UInt8) (f : Nat → Option (Tm × Nat)) (i : Nat) : Option (Tm × Nat) :=
  if s[i + (word s i).length]? = some 58 then
    match pty s 8 (i + (word s i).length + 1) with
    | none => none
    | some (ty, j) => if s[j]? = some 46 then (pts f s [41] (j + 1)).map fun r => (.mk 6 ⟨(word s i).toArray⟩ E0 0 ty Z0 r.1, r.2) else none
  else none
def pLet (s : List UInt8) (f : Nat → Option (Tm × Nat)) (i : Nat) : Option (Tm × Nat) :=
  if s[i + (word s i).length]? = some 61 then (pts f s [32, 41] (i + (word s i).length + 1)).map fun r => (mkT 8 (word s i) 0 r.1, r.2) else none
def pRec2 (s : List UInt8) (f : Nat → Option (Tm × Nat)) (a : List UInt8) (i : Nat) : Option (Tm × Nat) :=
  if s[i + (word s i).length]? = some 58 then
    match pty s 8 (i + (word s i).length + 1) with
    | none => none
    | some (ty, j) => if s[j]? = some 62 then
        match pty s 8 (j + 1) with
        | none => none
        | some (res, j2) => if s[j2]? = some 46 then (pts f s [41] (j2 + 1)).map fun r => (.mk 9 ⟨a.toArray⟩ ⟨(word s i).toArray⟩ 0 ty res r.1, r.2) else none
      else none
  else none
def pRec (s : List UInt8) (f : Nat → Option (Tm × Nat)) (i : Nat) : Option (Tm × Nat) :=
  if s[i + (word s i).length]? = some 32 then pRec2 s f (word s i) (i + (word s i).length + 1) else none
/-- What stands behind '('. -/
def pOpen (s : List UInt8) (f : Nat → Option (Tm × Nat)) (i : Nat) : Option (Tm × Nat) :=
  if pre [92] s i then pLam s f (i + 1)
  else if pre kLet s i then pLet s f (i + 4)
  else if pre kRec s i then pRec s f (i + 4)
  else if pre kIf s i then (pts f s [32, 32, 41] (i + 3)).map fun r => (mkT 5 [] 0 r.1, r.2)
  else if pre kRun s i then (pts f s [41] (i + 4)).map fun r => (mkT 12 [] 0 r.1, r.2)
  else if pre kLift s i then (pts f s [41] (i + 5)).map fun r => (mkT 13 [] 0 r.1, r.2)
  else if pre [33] s i then (pts f s [41] (i + 1)).map fun r => (mkT 4 [33] 0 r.1, r.2)
  else match f i with
    | none => none
    | some (x, j) => pRest s f x j
/-- The term at place i, at most D deep, and the place behind it. -/
def pTm (s : List UInt8) : Nat → Nat → Option (Tm × Nat)
  | 0, _ => none
  | D + 1, i =>
    if s.length ≤ i then none
    else if pre [35, 116] s i then some (mkT 3 [] 1 [], i + 2)
    else if pre [35, 102] s i then some (mkT 3 [] 0 [], i + 2)
    else if pre [126] s i then (pTm s D (i + 1)).map fun r => (mkT 11 [] 0 [r.1], r.2)
    else if pre [60] s i then (pts (pTm s D) s [62] (i + 1)).map fun r => (mkT 10 [] 0 r.1, r.2)
    else if pre [40] s i then pOpen s (pTm s D) (i + 1)
    else if ((s[i]?).map fun c => decide (48 ≤ c.toNat) && decide (c.toNat ≤ 57)) = some true then
      if okNum 0 999999 (word s i) then some (mkT 2 [] (rd (word s i)) [], i + (word s i).length) else none
    else some (mkT 1 (word s i) 0 [], i + (word s i).length)

/-- What may follow a term: no letter, no digit. -/
def Stop (r : List UInt8) : Prop := ∀ c, r.head? = some c → isW c = false
theorem stop_cons {c : UInt8} {r : List UInt8} (h : isW c = false) : Stop (c :: r) := fun x hx => by simp at hx; rw [← hx]; exact h
theorem pre_yes {q s r : List UInt8} {i : Nat} (h : s.drop i = q ++ r) : pre q s i = true := by
  unfold pre
  rw [h, List.isPrefixOf_iff_prefix]
  exact List.prefix_append q r
theorem pre_head {q s r : List UInt8} {i : Nat} {c d : UInt8} (h : s.drop i = c :: r) (hcd : c ≠ d) : pre (d :: q) s i = false := by
  unfold pre
  rw [h]
  simp only [List.isPrefixOf, Bool.and_eq_false_imp, beq_iff_eq]
  exact fun e => absurd e.symm hcd
theorem drop_app {s x r : List UInt8} {i : Nat} (h : s.drop i = x ++ r) : s.drop (i + x.length) = r := by
  rw [← List.drop_drop, h]; simp
theorem word_at {s a r : List UInt8} {i : Nat} (h : s.drop i = a ++ r) (ha : ∀ c ∈ a, isW c = true) (hr : Stop r) : word s i = a := by
  unfold word
  rw [h, List.takeWhile_append_of_pos ha]
  cases r with
  | nil => simp
  | cons c r => simp [hr c rfl]
theorem back (a : ByteArray) : (⟨a.data.toList.toArray⟩ : ByteArray) = a := rfl
theorem back' (a : ByteArray) : (⟨a.toList.toArray⟩ : ByteArray) = a := by rw [ByteArray.toList_eq]
theorem nm_all {a : ByteArray} (h : Nm a) : ∀ c ∈ a.data.toList, isW c = true := by
  intro c hc
  obtain ⟨k, hk, rfl⟩ := List.getElem_of_mem hc
  have hk' : k < a.size := by simpa using hk
  have h1 := h.ok k hk'
  have h2 : a.data.toList[k] = a[k] := by rw [Array.getElem_toList]; rfl
  rw [h2]
  unfold isW
  rcases h1 with ⟨q1, q2⟩ | ⟨_, q1, q2⟩
  · simp [q1, q2]
  · simp [q1, q2]
theorem nm_head {a : ByteArray} (h : Nm a) : ∃ c l, a.data.toList = c :: l ∧ 97 ≤ c.toNat ∧ c.toNat ≤ 122 := by
  have h0 := h.lo
  have h1 := h.ok 0 (by omega)
  have h2 : 0 < a.data.toList.length := h0
  obtain ⟨c, l, hl⟩ := List.exists_cons_of_length_pos h2
  refine ⟨c, l, hl, ?_⟩
  have h3 : a.data.toList[0] = a[0] := by rw [Array.getElem_toList]; rfl
  have h4 : a.data.toList[0] = c := by simp [hl]
  rw [← h4, h3]
  rcases h1 with h1 | h1
  · exact h1
  · omega
theorem nm_free {a : ByteArray} (h : Nm a) : a.data.toList ≠ [105, 102] ∧ a.data.toList ≠ [108, 101, 116] ∧ a.data.toList ≠ [108, 105, 102, 116] ∧ a.data.toList ≠ [114, 101, 99] ∧ a.data.toList ≠ [114, 117, 110] := by
  have h1 := h.free
  unfold Res at h1
  rw [ByteArray.toList_eq] at h1
  simp only [not_or] at h1
  exact h1
/-- A word of the syntax and a blank stand at i: then the word at i is that word. -/
theorem pre_word {q s : List UInt8} {i : Nat} (hq : ∀ c ∈ q, isW c = true) (h : pre (q ++ [32]) s i = true) : word s i = q := by
  unfold pre at h
  rw [List.isPrefixOf_iff_prefix] at h
  obtain ⟨r, hr⟩ := h
  exact word_at (r := 32 :: r) (by rw [← hr]; simp) hq (stop_cons (by decide))

theorem res {t t' : Tm} {j j' : Nat} (h : t = t') (hj : j = j') : some (t, j) = some (t', j') := by rw [h, hj]
theorem pts1 {f : Nat → Option (Tm × Nat)} {s : List UInt8} {e : UInt8} {i j : Nat} {x : Tm} (h1 : f i = some (x, j)) (h2 : s[j]? = some e) : pts f s [e] i = some ([x], j + 1) := by simp [pts, h1, h2]
theorem pts2 {f : Nat → Option (Tm × Nat)} {s : List UInt8} {e e2 : UInt8} {i j k : Nat} {x y : Tm} (h1 : f i = some (x, j)) (h2 : s[j]? = some e) (h3 : f (j + 1) = some (y, k)) (h4 : s[k]? = some e2) : pts f s [e, e2] i = some ([x, y], k + 1) := by simp [pts, h1, h2, h3, h4]
theorem pts3 {f : Nat → Option (Tm × Nat)} {s : List UInt8} {e e2 e3 : UInt8} {i j k l : Nat} {x y z : Tm} (h1 : f i = some (x, j)) (h2 : s[j]? = some e) (h3 : f (j + 1) = some (y, k)) (h4 : s[k]? = some e2) (h5 : f (k + 1) = some (z, l)) (h6 : s[l]? = some e3) :
    pts f s [e, e2, e3] i = some ([x, y, z], l + 1) := by simp [pts, h1, h2, h3, h4, h5, h6]
theorem t_var (a : ByteArray) : (Tm.mk 1 a E0 0 Z0 Z0 []).text = a.data.toList := by simp [Tm.text, txN]
theorem t_int (n : Int) : (Tm.mk 2 E0 E0 n Z0 Z0 []).text = Lib.itoa n := by simp [Tm.text, txN]
theorem t_bool (n : Int) : (Tm.mk 3 E0 E0 n Z0 Z0 []).text = [35, if n = 1 then 116 else 102] := by simp [Tm.text, txN]
theorem t_op1 (a : ByteArray) (x : Tm) : (Tm.mk 4 a E0 0 Z0 Z0 [x]).text = 40 :: 33 :: (x.text ++ [41]) := by simp [Tm.text, txN, textsM, hd]
theorem t_op2 (a : ByteArray) (x y : Tm) : (Tm.mk 4 a E0 0 Z0 Z0 [x, y]).text = 40 :: (x.text ++ (a.data.toList ++ (y.text ++ [41]))) := by simp [Tm.text, txN, textsM, hd]
theorem join2 (x y : List UInt8) : Lib.join [x, y] [32] = x ++ 32 :: y := by rw [Lib.join_cons]; simp [Lib.joinTail]
theorem join3 (x y z : List UInt8) : Lib.join [x, y, z] [32] = x ++ 32 :: (y ++ 32 :: z) := by rw [Lib.join_cons]; simp [Lib.joinTail]
theorem t_cond (x y z : Tm) : (Tm.mk 5 E0 E0 0 Z0 Z0 [x, y, z]).text = 40 :: 105 :: 102 :: 32 :: (x.text ++ 32 :: (y.text ++ 32 :: (z.text ++ [41]))) := by simp [Tm.text, txN, textsM, join3]
theorem t_lam (a : ByteArray) (ty : Ty) (x : Tm) : (Tm.mk 6 a E0 0 ty Z0 [x]).text = 40 :: 92 :: (a.data.toList ++ 58 :: (ty.text ++ 46 :: (x.text ++ [41]))) := by simp [Tm.text, txN, textsM, hd]
theorem t_app (x y : Tm) : (Tm.mk 7 E0 E0 0 Z0 Z0 [x, y]).text = 40 :: (x.text ++ 32 :: (y.text ++ [41])) := by simp [Tm.text, txN, textsM, join2]
theorem t_bind (a : ByteArray) (x y : Tm) : (Tm.mk 8 a E0 0 Z0 Z0 [x, y]).text = 40 :: 108 :: 101 :: 116 :: 32 :: (a.data.toList ++ 61 :: (x.text ++ 32 :: (y.text ++ [41]))) := by simp [Tm.text, txN, textsM, join2]
theorem t_fix (a b : ByteArray) (ty res : Ty) (x : Tm) : (Tm.mk 9 a b 0 ty res [x]).text = 40 :: 114 :: 101 :: 99 :: 32 :: (a.data.toList ++ 32 :: (b.data.toList ++ 58 :: (ty.text ++ 62 :: (res.text ++ 46 :: (x.text ++ [41]))))) := by simp [Tm.text, txN, textsM, hd]
theorem t_quote (x : Tm) : (Tm.mk 10 E0 E0 0 Z0 Z0 [x]).text = 60 :: (x.text ++ [62]) := by simp [Tm.text, txN, textsM, hd]
theorem t_splice (x : Tm) : (Tm.mk 11 E0 E0 0 Z0 Z0 [x]).text = 126 :: x.text := by simp [Tm.text, txN, textsM, hd]
theorem t_run (x : Tm) : (Tm.mk 12 E0 E0 0 Z0 Z0 [x]).text = 40 :: 114 :: 117 :: 110 :: 32 :: (x.text ++ [41]) := by simp [Tm.text, txN, textsM, hd]
theorem t_lift (x : Tm) : (Tm.mk 13 E0 E0 0 Z0 Z0 [x]).text = 40 :: 108 :: 105 :: 102 :: 116 :: 32 :: (x.text ++ [41]) := by simp [Tm.text, txN, textsM, hd]
theorem itoa_digs {n : Int} (h : 0 ≤ n) : (∀ c ∈ Lib.itoa n, isDig c) ∧ Lib.itoa n ≠ [] := by
  obtain ⟨u, rfl⟩ : ∃ u : Nat, n = (u : Int) := ⟨n.toNat, by omega⟩
  rw [Lib.itoa_nonneg]
  exact ⟨dec_digs u, dec_ne_nil u⟩
theorem dig_w {c : UInt8} (h : isDig c) : isW c = true := by
  unfold isW; simp [h.1, h.2]
/-- How a term's text begins. -/
theorem text_head {t : Tm} (h : Shape t) : ∃ c l, t.text = c :: l ∧ ((∃ a, Nm a ∧ t.text = a.data.toList ∧ 97 ≤ c.toNat) ∨ isDig c ∨ c = 35 ∨ c = 40 ∨ c = 60 ∨ c = 126) := by
  cases h with
  | var a h =>
    obtain ⟨c, l, hl, h1, _⟩ := nm_head h
    exact ⟨c, l, by rw [t_var, hl], Or.inl ⟨a, h, t_var a, h1⟩⟩
  | int n h0 h1 =>
    obtain ⟨h2, h3⟩ := itoa_digs h0
    obtain ⟨c, l, hl⟩ := List.exists_cons_of_ne_nil h3
    exact ⟨c, l, by rw [t_int, hl], Or.inr (Or.inl (h2 c (by rw [hl]; simp)))⟩
  | bool n h => exact ⟨_, _, t_bool n, by simp⟩
  | op1 a ha x hx => exact ⟨_, _, t_op1 a x, by simp⟩
  | op2 a c ha hc x y hx hy => exact ⟨_, _, t_op2 a x y, by simp⟩
  | cond x y z hx hy hz => exact ⟨_, _, t_cond x y z, by simp⟩
  | lam a h ty ht x hx => exact ⟨_, _, t_lam a ty x, by simp⟩
  | app x y hx hy => exact ⟨_, _, t_app x y, by simp⟩
  | bind a h x y hx hy => exact ⟨_, _, t_bind a x y, by simp⟩
  | fix a b ha hb hab ty res ht hr x hx => exact ⟨_, _, t_fix a b ty res x, by simp⟩
  | quote x hx => exact ⟨_, _, t_quote x, by simp⟩
  | splice x hx => exact ⟨_, _, t_splice x, by simp⟩
  | run x hx => exact ⟨_, _, t_run x, by simp⟩
  | lift x hx => exact ⟨_, _, t_lift x, by simp⟩
theorem ne_of_nat {c d : UInt8} (h : c.toNat ≠ d.toNat) : c ≠ d := fun e => h (by rw [e])
/-- No word of the syntax stands where a term's text stands. -/
theorem kw_no {t : Tm} {s r : List UInt8} {i : Nat} (h : Shape t) (hs : s.drop i = t.text ++ r) (hr : Stop r) :
    pre [92] s i = false ∧ pre kLet s i = false ∧ pre kRec s i = false ∧ pre kIf s i = false ∧ pre kRun s i = false ∧ pre kLift s i = false ∧ pre [33] s i = false := by
  obtain ⟨c, l, hl, hc⟩ := text_head h
  have hd : s.drop i = c :: (l ++ r) := by rw [hs, hl]; rfl
  rcases hc with ⟨a, ha, hta, h97⟩ | hc
  · have hw : word s i = a.data.toList := word_at (by rw [hs, hta]) (nm_all ha) hr
    obtain ⟨f1, f2, f3, f4, f5⟩ := nm_free ha
    refine ⟨pre_head hd (ne_of_nat ?_), ?_, ?_, ?_, ?_, ?_, pre_head hd (ne_of_nat ?_)⟩
    · have : (92 : UInt8).toNat = 92 := rfl
      omega
    · rw [Bool.eq_false_iff]; exact fun e => f2 (hw.symm.trans (pre_word (q := [108, 101, 116]) (by decide) e))
    · rw [Bool.eq_false_iff]; exact fun e => f4 (hw.symm.trans (pre_word (q := [114, 101, 99]) (by decide) e))
    · rw [Bool.eq_false_iff]; exact fun e => f1 (hw.symm.trans (pre_word (q := [105, 102]) (by decide) e))
    · rw [Bool.eq_false_iff]; exact fun e => f5 (hw.symm.trans (pre_word (q := [114, 117, 110]) (by decide) e))
    · rw [Bool.eq_false_iff]; exact fun e => f3 (hw.symm.trans (pre_word (q := [108, 105, 102, 116]) (by decide) e))
    · have : (33 : UInt8).toNat = 33 := rfl
      omega
  · have key : c.toNat ≠ 92 ∧ c.toNat ≠ 108 ∧ c.toNat ≠ 114 ∧ c.toNat ≠ 105 ∧ c.toNat ≠ 33 := by
      rcases hc with ⟨h1, h2⟩ | rfl | rfl | rfl | rfl
      · omega
      all_goals decide
    obtain ⟨k1, k2, k3, k4, k5⟩ := key
    exact ⟨pre_head hd (ne_of_nat k1), pre_head hd (ne_of_nat k2), pre_head hd (ne_of_nat k3), pre_head hd (ne_of_nat k4), pre_head hd (ne_of_nat k3), pre_head hd (ne_of_nat k2), pre_head hd (ne_of_nat k5)⟩
end Go.Proofs.YtdofjnjiandcbaaDoor
/- TmValid: The contract of the model's IsValidTerm. -/
namespace Go.Proofs.YtdofjnjiandcbaaDoor
open Go Go.RowKit

def Tm.Valid (t : Tm) : Prop := t.nodes ≤ 80 ∧ t.depth ≤ 20 ∧ t.IsT

set_option maxRecDepth 100000 in
set_option maxHeartbeats 2000000 in
theorem validM_any {C : Nat → Prop} {t : Tm} {v : Value} {w : World} (h : TM w C t v) (hn : t.wt ≤ 2097152) :
    Calls Tryd.prog 24 #[v] w (Tells t.Valid w) := by
  obtain ⟨tp, tc, rp, rc, p, c, rfl, hT⟩ := h
  have HT := Lib.hid hT
  have HX := Lib.hid (Bx9.new w t tp tc rp rc p c 35)
  have HB := Lib.hid (al_below w (.cells (tmC t tp tc rp rc p c) 35))
  have HN := Lib.hid hn
  have hdn := t.depth_nodes
  have hnw := t.nodes_wt
  clear hT
  go_enter Tryd.func24, Tryd.ntmps24
  go_wp2_with fail
  refine (leftM_any _ _ 80 (Nat.le_refl _) (HT.out.stays (.of_below HB.out)) HN.out (by omega) (by omega)).mono ?_
  rintro e w1 ⟨r, hr, rfl, hb1⟩
  have hrg := hr.range (by omega)
  have HR := Lib.hid hr
  have HB1 := Lib.hid (HB.out.trans (hb1.mono HB.out.size))
  have HX1 := Lib.hid (HX.out.keep hb1)
  obtain ⟨g0, g1, g2, g3, g4, g5, g6, g7, g8⟩ := HX.out.keep hb1
  clear hb1 hr
  by_cases h0 : 0 ≤ r
  · have HZ := Lib.hid (show t.nodes ≤ 80 by have := HR.out; unfold LeftEnds at this; omega)
    have hd0 : decide (0 ≤ r) = true := decide_eq_true h0
    go_wp2_with fail
    refine (depthM_any _ _ (Nat.le_refl _) (HT.out.stays (.of_below HB1.out)) HN.out).mono ?_
    rintro e w2 ⟨d, rfl, rfl, hb2⟩
    have HB2 := Lib.hid (HB1.out.trans (hb2.mono HB1.out.size))
    clear g0 g1 g2 g3 g4 g5 g6 g7 g8
    obtain ⟨g0, g1, g2, g3, g4, g5, g6, g7, g8⟩ := HX1.out.keep hb2
    clear hb2
    by_cases h2 : t.depth ≤ 20
    · have hd2 : decide ((t.depth : Int) ≤ 20) = true := decide_eq_true (by omega)
      go_wp2_with fail
      refine (isTM_any _ _ (Nat.le_refl _) (HT.out.stays (.of_below HB2.out)) HN.out).mono ?_
      rintro e w3 ⟨b, hb, rfl, hb3⟩
      have HB3 := Lib.hid (HB2.out.trans (hb3.mono HB2.out.size))
      have HI := Lib.hid hb
      clear hb hb3
      go_wp2_with fail
      go_ret
      exact ⟨_, HI.out.trans ⟨fun h => ⟨HZ.out, h2, h⟩, fun h => h.2.2⟩, rfl, HB3.out⟩
    · have hd2 : decide ((t.depth : Int) ≤ 20) = false := decide_eq_false (by omega)
      go_wp2_with fail
      go_ret
      exact ⟨_, lit_f (fun h => h2 h.2.1), rfl, HB2.out⟩
  · have HZ := Lib.hid (show ¬ t.nodes ≤ 80 by have := HR.out; unfold LeftEnds at this; omega)
    have hd0 : decide (0 ≤ r) = false := decide_eq_false h0
    go_wp2_with fail
    go_ret
    exact ⟨_, lit_f (fun h => HZ.out h.1), rfl, HB1.out⟩
end Go.Proofs.YtdofjnjiandcbaaDoor
/- TmComp: A term's text is parsed as that term; what is parsed and has the text is the only such term (gentmcomp.py writes this text). Of no program. -/
namespace Go.Proofs.YtdofjnjiandcbaaDoor
open Go Go.RowKit

theorem drop_cons {s r : List UInt8} {i : Nat} {c : UInt8} (h : s.drop i = c :: r) : s[i]? = some c ∧ s.drop (i + 1) = r := by
  have := drop_more (x := []) (s := s) (i := i) (c := c) (r := r) h
  simpa using this
theorem depth1 (k : Int) (a b : ByteArray) (n : Int) (ty res : Ty) (x : Tm) : (Tm.mk k a b n ty res [x]).depth = 1 + x.depth := by simp [Tm.depth, depthM]
theorem depth2 (k : Int) (a b : ByteArray) (n : Int) (ty res : Ty) (x y : Tm) : (Tm.mk k a b n ty res [x, y]).depth = 1 + max x.depth y.depth := by simp [Tm.depth, depthM]
theorem depth3 (k : Int) (a b : ByteArray) (n : Int) (ty res : Ty) (x y z : Tm) : (Tm.mk k a b n ty res [x, y, z]).depth = 1 + max x.depth (max y.depth z.depth) := by simp [Tm.depth, depthM]
theorem valid_text {s r : List UInt8} {t : Ty} {i : Nat} (h : t.valid = true) (hs : s.drop i = t.text ++ r) : pty s 8 i = some (t, i + t.text.length) := by
  obtain ⟨_, h2, h3⟩ := (valid_iff t).1 h
  exact pty_text s 8 t i r h3 h2 hs
theorem mk_nil (k n : Int) (ts : List Tm) : mkT k [] n ts = .mk k E0 E0 n Z0 Z0 ts := rfl
theorem mk_name (k n : Int) (a : ByteArray) (ts : List Tm) : mkT k a.data.toList n ts = .mk k a E0 n Z0 Z0 ts := rfl
theorem mk_toList {a : ByteArray} {l : List UInt8} (k n : Int) (ts : List Tm) (h : a.toList = l) : mkT k l n ts = .mk k a E0 n Z0 Z0 ts := by
  rw [← h, ByteArray.toList_eq]; rfl
theorem op_stop {c : UInt8} (h : opAr [c] = 2) : isW c = false ∧ c ≠ 32 := by
  unfold opAr at h
  repeat' split at h
  all_goals first
    | (rename_i hh; simp only [List.cons.injEq, and_true] at hh; subst hh; decide)
    | omega
set_option maxRecDepth 10000 in
/-- A TERM'S TEXT IS PARSED AS THAT TERM. -/
theorem pTm_text (s : List UInt8) : ∀ (D : Nat) (t : Tm) (i : Nat) (r : List UInt8), t.IsT → t.depth ≤ D → s.drop i = t.text ++ r → Stop r → pTm s D i = some (t, i + t.text.length)
  | 0, t, i, r, _, hd, _, _ => by rw [t.depth_eq] at hd; omega
  | D + 1, t, i, r, hT, hd, hs, hr => by
    have sh := shape hT
    have st : ∀ (x : Tm) (i : Nat) (e : UInt8) (r' : List UInt8), x.IsT → x.depth ≤ D → s.drop i = x.text ++ e :: r' → isW e = false → pTm s D i = some (x, i + x.text.length) ∧ s[i + x.text.length]? = some e ∧ s.drop (i + x.text.length + 1) = r' :=
      fun x i e r' hx hd hs he => ⟨pTm_text s D x i _ hx hd hs (stop_cons he), (drop_more hs).1, (drop_more hs).2⟩
    obtain ⟨c0, l0, hl0, hc0⟩ := text_head sh
    have hd0 : s.drop i = c0 :: (l0 ++ r) := by rw [hs, hl0]; rfl
    obtain ⟨hat, _⟩ := drop_cons hd0
    have hlt : ¬ s.length ≤ i := fun e => by rw [List.getElem?_eq_none e] at hat; cases hat
    rw [pTm, if_neg hlt]
    have no : ∀ {q : List UInt8} {d : UInt8}, c0.toNat ≠ d.toNat → pre (d :: q) s i = false := fun h => pre_head hd0 (ne_of_nat h)
    cases sh with
    | var a h =>
      obtain ⟨c, l, hl, h1, h2⟩ := nm_head h
      obtain rfl : c = c0 := by rw [t_var, hl] at hl0; exact (List.cons.inj hl0).1
      rw [if_neg (by rw [no (d := 35) (by simp; omega)]; decide)]
      rw [if_neg (by rw [no (d := 35) (by simp; omega)]; decide)]
      rw [if_neg (by rw [no (d := 126) (by simp; omega)]; decide)]
      rw [if_neg (by rw [no (d := 60) (by simp; omega)]; decide)]
      rw [if_neg (by rw [no (d := 40) (by simp; omega)]; decide)]
      have hw : word s i = a.data.toList := word_at (by rw [hs, t_var]) (nm_all h) hr
      rw [if_neg (by rw [hat]; simp; omega), hw, t_var]
      rfl
    | int n h0 h1 =>
      obtain ⟨h2, h3⟩ := itoa_digs h0
      have hc : isDig c0 := h2 c0 (by rw [t_int] at hl0; rw [hl0]; simp)
      obtain ⟨q1, q2⟩ := hc
      rw [if_neg (by rw [no (d := 35) (by simp; omega)]; decide)]
      rw [if_neg (by rw [no (d := 35) (by simp; omega)]; decide)]
      rw [if_neg (by rw [no (d := 126) (by simp; omega)]; decide)]
      rw [if_neg (by rw [no (d := 60) (by simp; omega)]; decide)]
      rw [if_neg (by rw [no (d := 40) (by simp; omega)]; decide)]
      have hw : word s i = Lib.itoa n := word_at (by rw [hs, t_int]) (fun c hc => dig_w (h2 c hc)) hr
      rw [if_pos (by rw [hat]; simp; omega), hw, if_pos (okNum_mk rfl h0 (by omega)), rd_itoa, t_int]
      rfl
    | bool n h =>
      rw [t_bool] at hs
      rcases h with rfl | rfl
      · have hp : pre [35, 116] s i = false := by
          unfold pre
          rw [hs]
          rfl
        rw [if_neg (by rw [hp]; decide), if_pos (pre_yes (r := r) (by rw [hs]; rfl)), t_bool]
        rfl
      · rw [if_pos (pre_yes (r := r) (by rw [hs]; rfl)), t_bool]
        rfl
    | splice x hx =>
      obtain rfl : c0 = 126 := by rw [t_splice] at hl0; exact (List.cons.inj hl0).1.symm
      rw [if_neg (by rw [no (d := 35) (by decide)]; decide)]
      rw [if_neg (by rw [no (d := 35) (by decide)]; decide)]
      rw [if_pos (pre_yes (q := [126]) hd0)]
      rw [t_splice] at hs
      rw [depth1] at hd
      obtain ⟨_, h2⟩ := drop_cons hs
      rw [pTm_text s D x (i + 1) r hx (by omega) h2 hr]
      exact res rfl (by rw [t_splice]; simp; omega)
    | quote x hx =>
      obtain rfl : c0 = 60 := by rw [t_quote] at hl0; exact (List.cons.inj hl0).1.symm
      rw [if_neg (by rw [no (d := 35) (by decide)]; decide)]
      rw [if_neg (by rw [no (d := 35) (by decide)]; decide)]
      rw [if_neg (by rw [no (d := 126) (by decide)]; decide)]
      rw [if_pos (pre_yes (q := [60]) hd0)]
      rw [t_quote] at hs
      rw [depth1] at hd
      obtain ⟨_, h2⟩ := drop_cons (c := 60) (r := x.text ++ 62 :: r) (by rw [hs]; simp)
      obtain ⟨h3, h4, _⟩ := st x (i + 1) 62 r hx (by omega) h2 (by decide)
      rw [pts1 h3 h4]
      exact res rfl (by rw [t_quote]; simp; omega)
    | op1 a ha x hx =>
      obtain rfl : c0 = 40 := by rw [t_op1] at hl0; exact (List.cons.inj hl0).1.symm
      rw [if_neg (by rw [no (d := 35) (by decide)]; decide)]
      rw [if_neg (by rw [no (d := 35) (by decide)]; decide)]
      rw [if_neg (by rw [no (d := 126) (by decide)]; decide)]
      rw [if_neg (by rw [no (d := 60) (by decide)]; decide)]
      rw [if_pos (pre_yes (q := [40]) hd0)]
      rw [t_op1] at hs
      obtain ⟨_, h2⟩ := drop_cons (c := 40) (r := 33 :: (x.text ++ 41 :: r)) (by rw [hs]; simp)
      unfold pOpen
      rw [if_neg (by rw [show pre [92] s (i + 1) = false from pre_head h2 (by decide)]; decide)]
      rw [if_neg (by rw [show pre kLet s (i + 1) = false from pre_head h2 (by decide)]; decide)]
      rw [if_neg (by rw [show pre kRec s (i + 1) = false from pre_head h2 (by decide)]; decide)]
      rw [if_neg (by rw [show pre kIf s (i + 1) = false from pre_head h2 (by decide)]; decide)]
      rw [if_neg (by rw [show pre kRun s (i + 1) = false from pre_head h2 (by decide)]; decide)]
      rw [if_neg (by rw [show pre kLift s (i + 1) = false from pre_head h2 (by decide)]; decide)]
      rw [if_pos (pre_yes (q := [33]) h2)]
      rw [depth1] at hd
      obtain ⟨_, h3⟩ := drop_cons h2
      obtain ⟨h4, h5, _⟩ := st x (i + 1 + 1) 41 r hx (by omega) h3 (by decide)
      rw [pts1 h4 h5]
      exact res (mk_toList _ _ _ ha) (by rw [t_op1]; simp; omega)
    | op2 a c ha hc x y hx hy =>
      obtain ⟨hc1, hc2⟩ := op_stop hc
      have had : a.data.toList = [c] := by rw [← ByteArray.toList_eq]; exact ha
      obtain rfl : c0 = 40 := by rw [t_op2] at hl0; exact (List.cons.inj hl0).1.symm
      rw [if_neg (by rw [no (d := 35) (by decide)]; decide)]
      rw [if_neg (by rw [no (d := 35) (by decide)]; decide)]
      rw [if_neg (by rw [no (d := 126) (by decide)]; decide)]
      rw [if_neg (by rw [no (d := 60) (by decide)]; decide)]
      rw [if_pos (pre_yes (q := [40]) hd0)]
      rw [t_op2, had] at hs
      obtain ⟨_, h2⟩ := drop_cons (c := 40) (r := x.text ++ c :: (y.text ++ 41 :: r)) (by rw [hs]; simp)
      unfold pOpen
      obtain ⟨n1, n2, n3, n4, n5, n6, n7⟩ := kw_no (shape hx) h2 (stop_cons hc1)
      rw [if_neg (by rw [n1]; decide)]
      rw [if_neg (by rw [n2]; decide)]
      rw [if_neg (by rw [n3]; decide)]
      rw [if_neg (by rw [n4]; decide)]
      rw [if_neg (by rw [n5]; decide)]
      rw [if_neg (by rw [n6]; decide)]
      rw [if_neg (by rw [n7]; decide)]
      rw [depth2] at hd
      obtain ⟨h3, h4, h5⟩ := st x (i + 1) c _ hx (by omega) h2 hc1
      obtain ⟨h6, h7, _⟩ := st y _ 41 r hy (by omega) h5 (by decide)
      rw [h3]
      unfold pRest
      dsimp only
      rw [if_neg (by rw [h4]; simpa using hc2), h4]
      dsimp only
      rw [if_pos hc, pts1 h6 h7]
      exact res (mk_toList _ _ _ ha) (by rw [t_op2, had]; simp; omega)
    | app x y hx hy =>
      obtain rfl : c0 = 40 := by rw [t_app] at hl0; exact (List.cons.inj hl0).1.symm
      rw [if_neg (by rw [no (d := 35) (by decide)]; decide)]
      rw [if_neg (by rw [no (d := 35) (by decide)]; decide)]
      rw [if_neg (by rw [no (d := 126) (by decide)]; decide)]
      rw [if_neg (by rw [no (d := 60) (by decide)]; decide)]
      rw [if_pos (pre_yes (q := [40]) hd0)]
      rw [t_app] at hs
      obtain ⟨_, h2⟩ := drop_cons (c := 40) (r := x.text ++ 32 :: (y.text ++ 41 :: r)) (by rw [hs]; simp)
      unfold pOpen
      obtain ⟨n1, n2, n3, n4, n5, n6, n7⟩ := kw_no (shape hx) h2 (stop_cons (by decide))
      rw [if_neg (by rw [n1]; decide)]
      rw [if_neg (by rw [n2]; decide)]
      rw [if_neg (by rw [n3]; decide)]
      rw [if_neg (by rw [n4]; decide)]
      rw [if_neg (by rw [n5]; decide)]
      rw [if_neg (by rw [n6]; decide)]
      rw [if_neg (by rw [n7]; decide)]
      rw [depth2] at hd
      obtain ⟨h3, h4, h5⟩ := st x (i + 1) 32 _ hx (by omega) h2 (by decide)
      obtain ⟨h6, h7, _⟩ := st y _ 41 r hy (by omega) h5 (by decide)
      rw [h3]
      unfold pRest
      dsimp only
      rw [if_pos h4, pts1 h6 h7]
      exact res rfl (by rw [t_app]; simp; omega)
    | cond x y z hx hy hz =>
      obtain rfl : c0 = 40 := by rw [t_cond] at hl0; exact (List.cons.inj hl0).1.symm
      rw [if_neg (by rw [no (d := 35) (by decide)]; decide)]
      rw [if_neg (by rw [no (d := 35) (by decide)]; decide)]
      rw [if_neg (by rw [no (d := 126) (by decide)]; decide)]
      rw [if_neg (by rw [no (d := 60) (by decide)]; decide)]
      rw [if_pos (pre_yes (q := [40]) hd0)]
      rw [t_cond] at hs
      obtain ⟨_, h2⟩ := drop_cons (c := 40) (r := 105 :: 102 :: 32 :: (x.text ++ 32 :: (y.text ++ 32 :: (z.text ++ 41 :: r)))) (by rw [hs]; simp)
      unfold pOpen
      rw [if_neg (by rw [show pre [92] s (i + 1) = false from pre_head h2 (by decide)]; decide)]
      rw [if_neg (by rw [show pre kLet s (i + 1) = false from pre_head h2 (by decide)]; decide)]
      rw [if_neg (by rw [show pre kRec s (i + 1) = false from pre_head h2 (by decide)]; decide)]
      have h3 : s.drop (i + 1 + 3) = (x.text ++ 32 :: (y.text ++ 32 :: (z.text ++ 41 :: r))) := drop_app (x := [105, 102, 32]) (by rw [h2]; rfl)
      rw [if_pos (pre_yes (q := kIf) (r := (x.text ++ 32 :: (y.text ++ 32 :: (z.text ++ 41 :: r)))) (by rw [h2]; rfl))]
      rw [depth3] at hd
      obtain ⟨a1, a2, a3⟩ := st x _ 32 _ hx (by omega) h3 (by decide)
      obtain ⟨a4, a5, a6⟩ := st y _ 32 _ hy (by omega) a3 (by decide)
      obtain ⟨a7, a8, _⟩ := st z _ 41 r hz (by omega) a6 (by decide)
      rw [pts3 a1 a2 a4 a5 a7 a8]
      exact res rfl (by rw [t_cond]; simp; omega)
    | run x hx =>
      obtain rfl : c0 = 40 := by rw [t_run] at hl0; exact (List.cons.inj hl0).1.symm
      rw [if_neg (by rw [no (d := 35) (by decide)]; decide)]
      rw [if_neg (by rw [no (d := 35) (by decide)]; decide)]
      rw [if_neg (by rw [no (d := 126) (by decide)]; decide)]
      rw [if_neg (by rw [no (d := 60) (by decide)]; decide)]
      rw [if_pos (pre_yes (q := [40]) hd0)]
      rw [t_run] at hs
      obtain ⟨_, h2⟩ := drop_cons (c := 40) (r := 114 :: 117 :: 110 :: 32 :: (x.text ++ 41 :: r)) (by rw [hs]; simp)
      unfold pOpen
      rw [if_neg (by rw [show pre [92] s (i + 1) = false from pre_head h2 (by decide)]; decide)]
      rw [if_neg (by rw [show pre kLet s (i + 1) = false from pre_head h2 (by decide)]; decide)]
      rw [if_neg (by rw [show pre kRec s (i + 1) = false from by unfold pre; rw [h2]; rfl]; decide)]
      rw [if_neg (by rw [show pre kIf s (i + 1) = false from pre_head h2 (by decide)]; decide)]
      have h3 : s.drop (i + 1 + 4) = (x.text ++ 41 :: r) := drop_app (x := [114, 117, 110, 32]) (by rw [h2]; rfl)
      rw [if_pos (pre_yes (q := kRun) (r := (x.text ++ 41 :: r)) (by rw [h2]; rfl))]
      rw [depth1] at hd
      obtain ⟨a1, a2, _⟩ := st x _ 41 r hx (by omega) h3 (by decide)
      rw [pts1 a1 a2]
      exact res rfl (by rw [t_run]; simp; omega)
    | lift x hx =>
      obtain rfl : c0 = 40 := by rw [t_lift] at hl0; exact (List.cons.inj hl0).1.symm
      rw [if_neg (by rw [no (d := 35) (by decide)]; decide)]
      rw [if_neg (by rw [no (d := 35) (by decide)]; decide)]
      rw [if_neg (by rw [no (d := 126) (by decide)]; decide)]
      rw [if_neg (by rw [no (d := 60) (by decide)]; decide)]
      rw [if_pos (pre_yes (q := [40]) hd0)]
      rw [t_lift] at hs
      obtain ⟨_, h2⟩ := drop_cons (c := 40) (r := 108 :: 105 :: 102 :: 116 :: 32 :: (x.text ++ 41 :: r)) (by rw [hs]; simp)
      unfold pOpen
      rw [if_neg (by rw [show pre [92] s (i + 1) = false from pre_head h2 (by decide)]; decide)]
      rw [if_neg (by rw [show pre kLet s (i + 1) = false from by unfold pre; rw [h2]; rfl]; decide)]
      rw [if_neg (by rw [show pre kRec s (i + 1) = false from pre_head h2 (by decide)]; decide)]
      rw [if_neg (by rw [show pre kIf s (i + 1) = false from pre_head h2 (by decide)]; decide)]
      rw [if_neg (by rw [show pre kRun s (i + 1) = false from pre_head h2 (by decide)]; decide)]
      have h3 : s.drop (i + 1 + 5) = (x.text ++ 41 :: r) := drop_app (x := [108, 105, 102, 116, 32]) (by rw [h2]; rfl)
      rw [if_pos (pre_yes (q := kLift) (r := (x.text ++ 41 :: r)) (by rw [h2]; rfl))]
      rw [depth1] at hd
      obtain ⟨a1, a2, _⟩ := st x _ 41 r hx (by omega) h3 (by decide)
      rw [pts1 a1 a2]
      exact res rfl (by rw [t_lift]; simp; omega)
    | bind a h x y hx hy =>
      obtain rfl : c0 = 40 := by rw [t_bind] at hl0; exact (List.cons.inj hl0).1.symm
      rw [if_neg (by rw [no (d := 35) (by decide)]; decide)]
      rw [if_neg (by rw [no (d := 35) (by decide)]; decide)]
      rw [if_neg (by rw [no (d := 126) (by decide)]; decide)]
      rw [if_neg (by rw [no (d := 60) (by decide)]; decide)]
      rw [if_pos (pre_yes (q := [40]) hd0)]
      rw [t_bind] at hs
      obtain ⟨_, h2⟩ := drop_cons (c := 40) (r := 108 :: 101 :: 116 :: 32 :: (a.data.toList ++ 61 :: (x.text ++ 32 :: (y.text ++ 41 :: r)))) (by rw [hs]; simp)
      unfold pOpen
      rw [if_neg (by rw [show pre [92] s (i + 1) = false from pre_head h2 (by decide)]; decide)]
      have h3 : s.drop (i + 1 + 4) = (a.data.toList ++ 61 :: (x.text ++ 32 :: (y.text ++ 41 :: r))) := drop_app (x := [108, 101, 116, 32]) (by rw [h2]; rfl)
      rw [if_pos (pre_yes (q := kLet) (r := (a.data.toList ++ 61 :: (x.text ++ 32 :: (y.text ++ 41 :: r)))) (by rw [h2]; rfl))]
      have hw : word s (i + 1 + 4) = a.data.toList := word_at h3 (nm_all h) (stop_cons (by decide))
      obtain ⟨b1, b2⟩ := drop_more h3
      unfold pLet
      rw [hw, if_pos b1]
      rw [depth2] at hd
      obtain ⟨a1, a2, a3⟩ := st x _ 32 _ hx (by omega) b2 (by decide)
      obtain ⟨a4, a5, _⟩ := st y _ 41 r hy (by omega) a3 (by decide)
      rw [pts2 a1 a2 a4 a5]
      exact res (mk_name _ _ a _) (by rw [t_bind]; simp; omega)
    | lam a h ty ht x hx =>
      obtain rfl : c0 = 40 := by rw [t_lam] at hl0; exact (List.cons.inj hl0).1.symm
      rw [if_neg (by rw [no (d := 35) (by decide)]; decide)]
      rw [if_neg (by rw [no (d := 35) (by decide)]; decide)]
      rw [if_neg (by rw [no (d := 126) (by decide)]; decide)]
      rw [if_neg (by rw [no (d := 60) (by decide)]; decide)]
      rw [if_pos (pre_yes (q := [40]) hd0)]
      rw [t_lam] at hs
      obtain ⟨_, h2⟩ := drop_cons (c := 40) (r := 92 :: (a.data.toList ++ 58 :: (ty.text ++ 46 :: (x.text ++ 41 :: r)))) (by rw [hs]; simp)
      unfold pOpen
      rw [if_pos (pre_yes (q := [92]) h2)]
      obtain ⟨_, h3⟩ := drop_cons h2
      have hw : word s (i + 1 + 1) = a.data.toList := word_at h3 (nm_all h) (stop_cons (by decide))
      obtain ⟨b1, b2⟩ := drop_more h3
      obtain ⟨b3, b4⟩ := drop_more b2
      unfold pLam
      rw [hw, if_pos b1, valid_text ht b2]
      dsimp only
      rw [if_pos b3]
      rw [depth1] at hd
      obtain ⟨a1, a2, _⟩ := st x _ 41 r hx (by omega) b4 (by decide)
      rw [pts1 a1 a2]
      exact res rfl (by rw [t_lam]; simp; omega)
    | fix a b ha hb hab ty res' ht hr' x hx =>
      obtain rfl : c0 = 40 := by rw [t_fix] at hl0; exact (List.cons.inj hl0).1.symm
      rw [if_neg (by rw [no (d := 35) (by decide)]; decide)]
      rw [if_neg (by rw [no (d := 35) (by decide)]; decide)]
      rw [if_neg (by rw [no (d := 126) (by decide)]; decide)]
      rw [if_neg (by rw [no (d := 60) (by decide)]; decide)]
      rw [if_pos (pre_yes (q := [40]) hd0)]
      rw [t_fix] at hs
      obtain ⟨_, h2⟩ := drop_cons (c := 40) (r := 114 :: 101 :: 99 :: 32 :: (a.data.toList ++ 32 :: (b.data.toList ++ 58 :: (ty.text ++ 62 :: (res'.text ++ 46 :: (x.text ++ 41 :: r)))))) (by rw [hs]; simp)
      unfold pOpen
      rw [if_neg (by rw [show pre [92] s (i + 1) = false from pre_head h2 (by decide)]; decide)]
      rw [if_neg (by rw [show pre kLet s (i + 1) = false from pre_head h2 (by decide)]; decide)]
      have h3 : s.drop (i + 1 + 4) = (a.data.toList ++ 32 :: (b.data.toList ++ 58 :: (ty.text ++ 62 :: (res'.text ++ 46 :: (x.text ++ 41 :: r))))) := drop_app (x := [114, 101, 99, 32]) (by rw [h2]; rfl)
      rw [if_pos (pre_yes (q := kRec) (r := (a.data.toList ++ 32 :: (b.data.toList ++ 58 :: (ty.text ++ 62 :: (res'.text ++ 46 :: (x.text ++ 41 :: r)))))) (by rw [h2]; rfl))]
      have hw : word s (i + 1 + 4) = a.data.toList := word_at h3 (nm_all ha) (stop_cons (by decide))
      obtain ⟨b1, b2⟩ := drop_more h3
      unfold pRec
      rw [hw, if_pos b1]
      have hw2 := word_at b2 (nm_all hb) (stop_cons (by decide))
      obtain ⟨b3, b4⟩ := drop_more b2
      obtain ⟨b5, b6⟩ := drop_more b4
      obtain ⟨b7, b8⟩ := drop_more b6
      unfold pRec2
      rw [hw2, if_pos b3, valid_text ht b4]
      dsimp only
      rw [if_pos b5, valid_text hr' b6]
      dsimp only
      rw [if_pos b7]
      rw [depth1] at hd
      obtain ⟨a1, a2, _⟩ := st x _ 41 r hx (by omega) b8 (by decide)
      rw [pts1 a1 a2]
      exact res rfl (by rw [t_fix]; simp; omega)
/-- What ParseTerm answers. -/
def parseM (s : List UInt8) (t : Tm) : Prop := t.Valid ∧ t.text = s
theorem parseM_pTm {s : List UInt8} {t : Tm} (h : parseM s t) : pTm s 20 0 = some (t, s.length) := by
  obtain ⟨⟨_, h2, h3⟩, rfl⟩ := h
  have := pTm_text t.text 20 t 0 [] h3 h2 (by simp) (fun c hc => by simp at hc)
  simpa using this
theorem parseM_one {s : List UInt8} {t u : Tm} (h : parseM s t) (h2 : parseM s u) : t = u := by
  have := (parseM_pTm h).symm.trans (parseM_pTm h2)
  simpa using this
end Go.Proofs.YtdofjnjiandcbaaDoor
/- TyMark: The contract of the laws' markTypeS, markType: every node of a tree of the call's own is numbered, nothing else turns; of heldTypeS, heldType: the numbers are found again. -/
namespace Go.Proofs.YtdofjnjiandcbaaDoor
open Go Go.RowKit

mutual
def Ty.mark : Nat → Ty → Ty
  | k, .mk _ ts => .mk k (markS (k + 1) ts)
def markS : Nat → List Ty → List Ty
  | _, [] => []
  | k, t :: ts => t.mark k :: markS (k + t.nodes) ts
end
theorem mark_kind (k : Nat) (t : Ty) : (t.mark k).kind = k := by cases t; rfl
theorem mark_args (k : Nat) (t : Ty) : (t.mark k).args = markS (k + 1) t.args := by cases t; rfl
theorem markS_at (ts : List Ty) : ∀ (k j : Nat), (markS k ts)[j]? = (ts[j]?).map (fun x => x.mark (k + nodesS (ts.take j))) := by
  induction ts with
  | nil => intro k j; simp [markS]
  | cons t ts ih =>
    intro k j
    cases j with
    | zero => simp [markS, nodesS]
    | succ j => simp only [markS, List.getElem?_cons_succ, ih, List.take_succ_cons, nodesS, Nat.add_assoc]
theorem markS_length (ts : List Ty) : ∀ k : Nat, (markS k ts).length = ts.length := by
  induction ts with
  | nil => intro k; rfl
  | cons t ts ih => intro k; simp [markS, ih]

/-- Nothing turns but in the blocks of F. -/
structure But (F : Nat → Prop) (w w' : World) : Prop where
  size : w.heap.size ≤ w'.heap.size
  kept : ∀ b, b < w.heap.size → ¬ F b → w'.heap[b]? = w.heap[b]?
  below : ∀ base, base ≤ w.heap.size → (∀ b, F b → base ≤ b) → Below base w w'
theorem But.refl (F : Nat → Prop) (w : World) : But F w w := ⟨Nat.le_refl _, fun _ _ _ => rfl, fun base _ _ => Below.refl base w⟩
theorem But.trans {F : Nat → Prop} {a b c : World} (h : But F a b) (k : But F b c) : But F a c :=
  ⟨Nat.le_trans h.size k.size, fun x hx hn => (k.kept x (Nat.lt_of_lt_of_le hx h.size) hn).trans (h.kept x hx hn), fun base hb hF => (h.below base hb hF).trans (k.below base (Nat.le_trans hb h.size) hF)⟩
theorem But.mono {F F' : Nat → Prop} {a b : World} (h : But F a b) (hF : ∀ x, F x → F' x) : But F' a b :=
  ⟨h.size, fun x hx hn => h.kept x hx (fun e => hn (hF x e)), fun base hb hF' => h.below base hb (fun x hx => hF' x (hF x hx))⟩
theorem But.set {F : Nat → Prop} {a w : World} (h : But F a w) {b : Nat} (hb : F b) (o : Nat) (v : Value) : But F a (w.setCell ⟨b, o, none⟩ v) :=
  ⟨by have := h.size; simpa [World.setCell] using this, fun x hx hn => (Below.heap_setCell _ _ _ _ (fun e => hn (by rw [show x = b from e]; exact hb))).trans (h.kept x hx hn), fun base h1 h2 => (h.below base h1 h2).setCell (p := ⟨b, o, none⟩) (h2 b hb) v⟩
theorem But.stays {F G : Nat → Prop} {w w' : World} (h : But F w w') (hd : ∀ x, F x → G x → False) : Stays G w w' := ⟨h.size, fun b hb hl => h.kept b hl (fun e => hd b e hb)⟩

/-- j of a row's types are numbered, from k on. -/
structure MInv (w0 w wr : World) (k : Nat) (ts : List Ty) (b c : Nat) (K : Nat → Int) (S : Nat → Value) (G : Nat → Nat → Prop) (F : Nat → Prop) (j : Nat) : Prop where
  row : Row wr b ts.length c (fun i => if i < j then ((k + nodesS (ts.take i) : Nat) : Int) else K i) S
  done : ∀ i x, i < j → ts[i]? = some x → OS wr (markS (k + nodesS (ts.take i) + 1) x.args) (S i) (G i)
  rest : ∀ i, j ≤ i → i < ts.length → Stays (G i) w0 wr
  but : But F w wr

theorem MInv.next {w0 w wr w2 : World} {k : Nat} {ts : List Ty} {b c : Nat} {K : Nat → Int} {S : Nat → Value} {G : Nat → Nat → Prop} {F : Nat → Prop} {j q : Nat} (h : MInv w0 w wr k ts b c K S G F j)
    (hF : F b) (hG : ∀ j x, j < ts.length → G j x → F x ∧ x ≠ b) (hd : ∀ i j x, i < ts.length → j < ts.length → i ≠ j → G i x → G j x → False) (hj : j < ts.length) (hq : q = k + nodesS (ts.take j))
    (hO : OS w2 (markS (q + 1) ts[j].args) (S j) (G j)) (hB : But (G j) (wr.setCell ⟨b, j * 2, none⟩ (.int .i64 q)) w2) : MInv w0 w w2 k ts b c K S G F (j + 1) := by
  have hrow1 := h.row.setKind j q
  have hbut1 : But F w (wr.setCell ⟨b, j * 2, none⟩ (.int .i64 q)) := h.but.set hF _ _
  have st : ∀ i, i < ts.length → i ≠ j → Stays (G i) wr w2 := fun i hi hne => (setCell_stays wr b (j * 2) (.int .i64 q) (G i) (fun e => (hG i b hi e).2 rfl)).trans (hB.stays (fun x h1 h2 => hd i j x hi hj hne h2 h1))
  refine ⟨?_, fun i x hi hx => ?_, fun i h1 h2 => (h.rest i (by omega) h2).trans (st i h2 (by omega)), hbut1.trans (hB.mono (fun x hx => (hG j x hj hx).1))⟩
  · refine (hrow1.of_block (hB.kept b hrow1.lt (fun e => (hG j b hj e).2 rfl))).congr (fun i hi => ?_) (fun i _ => rfl)
    by_cases e : i = j
    · subst e
      simp [hq]
    · simp only [if_neg e]
      by_cases e2 : i < j
      · rw [if_pos e2, if_pos (by omega)]
      · rw [if_neg e2, if_neg (by omega)]
  · by_cases e : i = j
    · subst e
      rw [List.getElem?_eq_getElem hj] at hx
      obtain rfl := Option.some.inj hx
      rw [← hq]
      exact hO
    · exact (h.done i x (by omega) hx).stays (st i (List.getElem?_eq_some_iff.1 hx).1 e)
theorem MInv.all {w0 w wr : World} {k : Nat} {ts : List Ty} {b c : Nat} {K : Nat → Int} {S : Nat → Value} {G : Nat → Nat → Prop} {F : Nat → Prop} (h : MInv w0 w wr k ts b c K S G F ts.length)
    (hF : F b) (hG : ∀ j x, j < ts.length → G j x → F x ∧ x ≠ b) (hd : ∀ i j x, i < ts.length → j < ts.length → i ≠ j → G i x → G j x → False) (hm : c ≤ maxLen) : OS wr (markS k ts) (.slice (some ⟨b, 0, none⟩) ts.length c) F := by
  have hl := markS_length ts k
  have at_ : ∀ j x, (markS k ts)[j]? = some x → ∃ y : Ty, ts[j]? = some y ∧ x = y.mark (k + nodesS (ts.take j)) := fun j x hj => by
    rw [markS_at, Option.map_eq_some_iff] at hj
    obtain ⟨y, h1, h2⟩ := hj
    exact ⟨y, h1, h2.symm⟩
  have key := OS.row (w := wr) (ts := markS k ts) (b := b) (c := c) (F := F) (fun i => if i < ts.length then ((k + nodesS (ts.take i) : Nat) : Int) else K i) S G (by rw [hl]; exact h.row) hm hF
    (fun j x hj => by
      obtain ⟨y, h1, rfl⟩ := at_ j x hj
      rw [if_pos (List.getElem?_eq_some_iff.1 h1).1, mark_kind])
    (fun j x hj => by
      obtain ⟨y, h1, rfl⟩ := at_ j x hj
      rw [mark_args]
      exact h.done j y (List.getElem?_eq_some_iff.1 h1).1 h1)
    (by rw [hl]; exact hG) (by rw [hl]; exact hd)
  rw [hl] at key
  exact key

def Marked' (ts : List Ty) (v : Value) (F : Nat → Prop) (k : Nat) (w : World) (e : Ending) (w' : World) : Prop :=
  e = .returned (.int .i64 ((k + nodesS ts : Nat) : Int)) ∧ OS w' (markS k ts) v F ∧ But F w w'

end Go.Proofs.YtdofjnjiandcbaaDoor
/- Kind: The contracts of the program's kinds of types: arity, kindOf, IsBase, isCode. -/
namespace Go.Proofs.YtdofjnjiandcbaaDoor
open Go Go.RowKit

theorem ar_int (w : World) : Calls Tryd.prog 102 #[.agg #[]] w fun e w' => e = .returned (.int .i64 0) ∧ Below w.heap.size w w' := by
  go_enter Tryd.func102, Tryd.ntmps102
  go_wp2
  go_ret
  exact ⟨rfl, (Below.refl _ _).alloc (Nat.le_refl _) _⟩
theorem ar_bool (w : World) : Calls Tryd.prog 103 #[.agg #[]] w fun e w' => e = .returned (.int .i64 0) ∧ Below w.heap.size w w' := by
  go_enter Tryd.func103, Tryd.ntmps103
  go_wp2
  go_ret
  exact ⟨rfl, (Below.refl _ _).alloc (Nat.le_refl _) _⟩
theorem ar_fun (w : World) : Calls Tryd.prog 104 #[.agg #[]] w fun e w' => e = .returned (.int .i64 2) ∧ Below w.heap.size w w' := by
  go_enter Tryd.func104, Tryd.ntmps104
  go_wp2
  go_ret
  exact ⟨rfl, (Below.refl _ _).alloc (Nat.le_refl _) _⟩
theorem ar_code (w : World) : Calls Tryd.prog 105 #[.agg #[]] w fun e w' => e = .returned (.int .i64 1) ∧ Below w.heap.size w w' := by
  go_enter Tryd.func105, Tryd.ntmps105
  go_wp2
  go_ret
  exact ⟨rfl, (Below.refl _ _).alloc (Nat.le_refl _) _⟩

theorem meth_int (w : World) : (method 236 98 (.agg #[]) "loop.example/g00589/impl.arity").run Tryd.prog w = .ok (102, .agg #[]) w := by kernel_rfl
theorem meth_bool (w : World) : (method 236 99 (.agg #[]) "loop.example/g00589/impl.arity").run Tryd.prog w = .ok (103, .agg #[]) w := by kernel_rfl
theorem meth_fun (w : World) : (method 236 100 (.agg #[]) "loop.example/g00589/impl.arity").run Tryd.prog w = .ok (104, .agg #[]) w := by kernel_rfl
theorem meth_code (w : World) : (method 236 101 (.agg #[]) "loop.example/g00589/impl.arity").run Tryd.prog w = .ok (105, .agg #[]) w := by kernel_rfl

/-- The kind's value, by the kind's number and the number of parts. -/
def kindV (k : Int) (n : Nat) : Value :=
  if k = 1 ∧ n = 0 then .iface 98 (.agg #[])
  else if k = 2 ∧ n = 0 then .iface 99 (.agg #[])
  else if k = 3 ∧ n = 2 then .iface 100 (.agg #[])
  else if k = 4 ∧ n = 1 then .iface 101 (.agg #[])
  else .nilIface

theorem keep1 {w W w1 : World} {p1 : Addr} {v1 : Value} (hb1 : Below W.heap.size W w1) (h : W.cell? p1 = some v1 ∧ Below w.heap.size w W) : w1.cell? p1 = some v1 ∧ Below w.heap.size w w1 :=
  ⟨(hb1.cell (World.block_lt_of_cell? W _ h.1)).trans h.1, h.2.trans (hb1.mono h.2.size)⟩

set_option maxRecDepth 100000 in
set_option maxHeartbeats 1000000 in
theorem kindOf_any (k : Int) (p : Option Addr) (n c : Nat) (w : World) (hn : n ≤ 9223372036854775807) :
    Calls Tryd.prog 67 #[.agg #[.int .i64 k, .slice p n c]] w fun e w' => e = .returned (kindV k n) ∧ Below w.heap.size w w' := by
  have HV := Lib.hid (fun v (h : kindV k n = v) (w' : World) (hb : Below w.heap.size w w') => (⟨by rw [h], hb⟩ : Ending.returned v = .returned (kindV k n) ∧ Below w.heap.size w w'))
  go_enter Tryd.func67, Tryd.ntmps67
  by_cases q1 : k = 1
  · subst q1
    have hm := meth_int
    have hB : Below w.heap.size w (w.alloc (Obj.cells #[.int .i64 1, .slice p n c] 32)) := (Below.refl w.heap.size w).alloc (Nat.le_refl _) _
    go_wp2_with fail
    go_region_held3 (fun w' => w'.cell? ⟨w.heap.size, 1, none⟩ = some (.slice p n c) ∧ Below w.heap.size w w')
      (first
        | (go_keep; done)
        | exact ⟨by simp [*], hB.drew⟩
        | exact keep1 hb1 (by assumption))
      (first | (go_at_call 102; refine (ar_int _).mono ?_; rintro e w1 ⟨rfl, hb1⟩))
    all_goals
      rename_i hH
      have HB := Lib.hid hH.2
      clear hH hb1 hB hm
      by_cases hz : n = 0
      · subst hz
        go_wp2_with fail
        go_ret
        exact HV.out _ (by simp [kindV]) _ HB.out
      · go_wp2_with fail
        go_ret
        exact HV.out _ (by simp [kindV, hz]) _ HB.out
  by_cases q2 : k = 2
  · subst q2
    have hm := meth_bool
    have hB : Below w.heap.size w (w.alloc (Obj.cells #[.int .i64 2, .slice p n c] 32)) := (Below.refl w.heap.size w).alloc (Nat.le_refl _) _
    go_wp2_with fail
    go_region_held3 (fun w' => w'.cell? ⟨w.heap.size, 1, none⟩ = some (.slice p n c) ∧ Below w.heap.size w w')
      (first
        | (go_keep; done)
        | exact ⟨by simp [*], hB.drew⟩
        | exact keep1 hb1 (by assumption))
      (first | (go_at_call 103; refine (ar_bool _).mono ?_; rintro e w1 ⟨rfl, hb1⟩))
    all_goals
      rename_i hH
      have HB := Lib.hid hH.2
      clear hH hb1 hB hm
      by_cases hz : n = 0
      · subst hz
        go_wp2_with fail
        go_ret
        exact HV.out _ (by simp [kindV]) _ HB.out
      · go_wp2_with fail
        go_ret
        exact HV.out _ (by simp [kindV, hz]) _ HB.out
  by_cases q3 : k = 3
  · subst q3
    have hm := meth_fun
    have hB : Below w.heap.size w (w.alloc (Obj.cells #[.int .i64 3, .slice p n c] 32)) := (Below.refl w.heap.size w).alloc (Nat.le_refl _) _
    go_wp2_with fail
    go_region_held3 (fun w' => w'.cell? ⟨w.heap.size, 1, none⟩ = some (.slice p n c) ∧ Below w.heap.size w w')
      (first
        | (go_keep; done)
        | exact ⟨by simp [*], hB.drew⟩
        | exact keep1 hb1 (by assumption))
      (first | (go_at_call 104; refine (ar_fun _).mono ?_; rintro e w1 ⟨rfl, hb1⟩))
    all_goals
      rename_i hH
      have HB := Lib.hid hH.2
      clear hH hb1 hB hm
      by_cases hz : n = 2
      · subst hz
        go_wp2_with fail
        go_ret
        exact HV.out _ (by simp [kindV]) _ HB.out
      · go_wp2_with fail
        go_ret
        exact HV.out _ (by simp [kindV, hz]) _ HB.out
  by_cases q4 : k = 4
  · subst q4
    have hm := meth_code
    have hB : Below w.heap.size w (w.alloc (Obj.cells #[.int .i64 4, .slice p n c] 32)) := (Below.refl w.heap.size w).alloc (Nat.le_refl _) _
    go_wp2_with fail
    go_region_held3 (fun w' => w'.cell? ⟨w.heap.size, 1, none⟩ = some (.slice p n c) ∧ Below w.heap.size w w')
      (first
        | (go_keep; done)
        | exact ⟨by simp [*], hB.drew⟩
        | exact keep1 hb1 (by assumption))
      (first | (go_at_call 105; refine (ar_code _).mono ?_; rintro e w1 ⟨rfl, hb1⟩))
    all_goals
      rename_i hH
      have HB := Lib.hid hH.2
      clear hH hb1 hB hm
      by_cases hz : n = 1
      · subst hz
        go_wp2_with fail
        go_ret
        exact HV.out _ (by simp [kindV]) _ HB.out
      · go_wp2_with fail
        go_ret
        exact HV.out _ (by simp [kindV, hz]) _ HB.out
  have hB := Lib.hid ((Below.refl w.heap.size w).alloc (Nat.le_refl _) (Obj.cells #[.int .i64 k, .slice p n c] 32))
  have t1 : (k == 1) = false := by simp [q1]
  have t2 : (k == 2) = false := by simp [q2]
  have t3 : (k == 3) = false := by simp [q3]
  have t4 : (k == 4) = false := by simp [q4]
  have hv := Lib.hid (show kindV k n = .nilIface by simp [kindV, q1, q2, q3, q4])
  clear q1 q2 q3 q4
  go_wp2_with fail
  go_region
  all_goals
    go_wp2_with fail
    go_ret
    exact HV.out _ hv.out _ hB.out.drew
end Go.Proofs.YtdofjnjiandcbaaDoor
/- Kind2: The contracts of the program's IsBase and isCode. -/
namespace Go.Proofs.YtdofjnjiandcbaaDoor
open Go Go.RowKit

theorem kindV_cases (k : Int) (n : Nat) : ((k = 1 ∧ n = 0) ∧ kindV k n = .iface 98 (.agg #[])) ∨ ((k = 2 ∧ n = 0) ∧ kindV k n = .iface 99 (.agg #[])) ∨
    ((k = 3 ∧ n = 2) ∧ kindV k n = .iface 100 (.agg #[])) ∨ ((k = 4 ∧ n = 1) ∧ kindV k n = .iface 101 (.agg #[])) ∨
    ((¬ (k = 1 ∧ n = 0) ∧ ¬ (k = 2 ∧ n = 0) ∧ ¬ (k = 3 ∧ n = 2) ∧ ¬ (k = 4 ∧ n = 1)) ∧ kindV k n = .nilIface) := by
  unfold kindV
  by_cases h1 : k = 1 ∧ n = 0
  · simp [h1]
  by_cases h2 : k = 2 ∧ n = 0
  · simp [h2]
  by_cases h3 : k = 3 ∧ n = 2
  · simp [h3]
  by_cases h4 : k = 4 ∧ n = 1
  · simp [h4]
  simp [h1, h2, h3, h4]

theorem as_int_int (w : World) : (Instr.typeAssert (.iface 98 (.agg #[])) 91 98 true).run Tryd.prog w = .ok (.tuple #[.agg #[], .bool true]) w := by kernel_rfl
theorem as_bool_int (w : World) : (Instr.typeAssert (.iface 99 (.agg #[])) 91 98 true).run Tryd.prog w = .ok (.tuple #[.agg #[], .bool false]) w := by kernel_rfl
theorem as_fun_int (w : World) : (Instr.typeAssert (.iface 100 (.agg #[])) 91 98 true).run Tryd.prog w = .ok (.tuple #[.agg #[], .bool false]) w := by kernel_rfl
theorem as_code_int (w : World) : (Instr.typeAssert (.iface 101 (.agg #[])) 91 98 true).run Tryd.prog w = .ok (.tuple #[.agg #[], .bool false]) w := by kernel_rfl
theorem as_nil_int (w : World) : (Instr.typeAssert .nilIface 91 98 true).run Tryd.prog w = .ok (.tuple #[.agg #[], .bool false]) w := by kernel_rfl
theorem as_int_bool (w : World) : (Instr.typeAssert (.iface 98 (.agg #[])) 91 99 true).run Tryd.prog w = .ok (.tuple #[.agg #[], .bool false]) w := by kernel_rfl
theorem as_bool_bool (w : World) : (Instr.typeAssert (.iface 99 (.agg #[])) 91 99 true).run Tryd.prog w = .ok (.tuple #[.agg #[], .bool true]) w := by kernel_rfl
theorem as_fun_bool (w : World) : (Instr.typeAssert (.iface 100 (.agg #[])) 91 99 true).run Tryd.prog w = .ok (.tuple #[.agg #[], .bool false]) w := by kernel_rfl
theorem as_code_bool (w : World) : (Instr.typeAssert (.iface 101 (.agg #[])) 91 99 true).run Tryd.prog w = .ok (.tuple #[.agg #[], .bool false]) w := by kernel_rfl
theorem as_nil_bool (w : World) : (Instr.typeAssert .nilIface 91 99 true).run Tryd.prog w = .ok (.tuple #[.agg #[], .bool false]) w := by kernel_rfl
theorem as_int_code (w : World) : (Instr.typeAssert (.iface 98 (.agg #[])) 91 101 true).run Tryd.prog w = .ok (.tuple #[.agg #[], .bool false]) w := by kernel_rfl
theorem as_bool_code (w : World) : (Instr.typeAssert (.iface 99 (.agg #[])) 91 101 true).run Tryd.prog w = .ok (.tuple #[.agg #[], .bool false]) w := by kernel_rfl
theorem as_fun_code (w : World) : (Instr.typeAssert (.iface 100 (.agg #[])) 91 101 true).run Tryd.prog w = .ok (.tuple #[.agg #[], .bool false]) w := by kernel_rfl
theorem as_code_code (w : World) : (Instr.typeAssert (.iface 101 (.agg #[])) 91 101 true).run Tryd.prog w = .ok (.tuple #[.agg #[], .bool true]) w := by kernel_rfl
theorem as_nil_code (w : World) : (Instr.typeAssert .nilIface 91 101 true).run Tryd.prog w = .ok (.tuple #[.agg #[], .bool false]) w := by kernel_rfl

theorem dec_t {P : Prop} [Decidable P] (h : P) : true = decide P := (decide_eq_true h).symm
theorem dec_f {P : Prop} [Decidable P] (h : ¬ P) : false = decide P := (decide_eq_false h).symm

def Ty.code (t : Ty) : Bool := decide (t.kind = 4 ∧ t.args.length = 1)

end Go.Proofs.YtdofjnjiandcbaaDoor
/- Erase: Erasing: the figure; what waits while the program erases: places that are still to be filled, and what stands when they are. Of no walk. -/
namespace Go.Proofs.YtdofjnjiandcbaaDoor
open Go Go.RowKit

/-- A node over erased parts. -/
def eraseK (k : Int) (es : List Ty) : Ty := if k = 4 ∧ es.length = 1 then es.headD (.mk k []) else .mk k es
mutual
def Ty.erase : Ty → Ty
  | .mk k ts => eraseK k (eraseS ts)
def eraseS : List Ty → List Ty
  | [] => []
  | t :: ts => t.erase :: eraseS ts
end
theorem eraseS_map (ts : List Ty) : eraseS ts = ts.map Ty.erase := by
  induction ts with
  | nil => rfl
  | cons t ts ih => simp [eraseS, ih]
theorem erase_eq (t : Ty) : t.erase = eraseK t.kind (t.args.map Ty.erase) := by cases t; simp [Ty.erase, eraseS_map]
theorem erase_code {y : Ty} (h : y.code = true) : ∃ z, y.args = [z] ∧ y.erase = z.erase := by
  unfold Ty.code at h
  rw [decide_eq_true_eq] at h
  obtain ⟨h1, h2⟩ := h
  obtain ⟨z, hz⟩ := List.length_eq_one_iff.1 h2
  exact ⟨z, hz, by rw [erase_eq, hz]; simp [eraseK, h1]⟩
theorem erase_node {y : Ty} (h : y.code = false) : y.erase = .mk y.kind (y.args.map Ty.erase) := by
  unfold Ty.code at h
  rw [decide_eq_false_iff_not] at h
  rw [erase_eq, eraseK, if_neg (by rw [List.length_map]; exact h)]

theorem cell_of_blk' {w : World} {g : Nat} {cs : Array Value} {t : TypeId} {fr : Nat × Nat} (h : w.heap[g]? = some (.cells cs t fr)) {i : Nat} : w.cell? ⟨g, i, none⟩ = cs[i]? := by simp [World.cell?, h]

/-- A place that is to be filled with a type, erased: the type, the place. -/
structure Job where
  x : Ty
  b : Nat
  o : Nat
/-- The cell belongs to no place that waits. -/
def Free (st : List Job) (b o : Nat) : Prop := ∀ e ∈ st, ¬ (e.b = b ∧ (o = e.o ∨ o = e.o + 1))

/-- The places are filled: each holds its type erased, in rows that are newer than w and apart; of the tree's blocks U nothing else has turned. -/
structure Filled' (w w' : World) (U : Nat → Prop) (st : List Job) : Prop where
  size : w.heap.size ≤ w'.heap.size
  same : ∀ b, U b → ∀ o, Free st b o → w'.cell? ⟨b, o, none⟩ = w.cell? ⟨b, o, none⟩
  shape : ∀ b, U b → ∀ cur : Array Value, w.heap[b]? = some (.cells cur 32 (0, 0)) → ∃ cur' : Array Value, w'.heap[b]? = some (.cells cur' 32 (0, 0)) ∧ cur'.size = cur.size
  full : ∃ G : Nat → Nat → Prop, (∀ i e, st[i]? = some e → ∃ s, w'.cell? ⟨e.b, e.o, none⟩ = some (.int .i64 e.x.erase.kind) ∧ w'.cell? ⟨e.b, e.o + 1, none⟩ = some s ∧ OS w' e.x.erase.args s (G i)) ∧
    (∀ i z, i < st.length → G i z → w.heap.size ≤ z) ∧ (∀ i j z, i < st.length → j < st.length → i ≠ j → G i z → G j z → False)

/-- The root holds the whole. -/
def RootDone (w' : World) (R : Nat) (T : Ty) : Prop := ∃ s, w'.cell? ⟨R, 0, none⟩ = some (.int .i64 T.kind) ∧ w'.cell? ⟨R, 1, none⟩ = some s ∧ OS w' T.args s (fun b => R < b)

/-- The state: where all that waits is filled the root holds the whole. -/
structure EInv (w : World) (U : Nat → Prop) (st : List Job) (R : Nat) (T : Ty) : Prop where
  lt : ∀ b, U b → R ≤ b ∧ b < w.heap.size ∧ ∃ cur, w.heap[b]? = some (.cells cur 32 (0, 0))
  root : R < w.heap.size
  loc : ∀ e ∈ st, U e.b ∧ (∃ q, w.cell? ⟨e.b, e.o, none⟩ = some (.int .i64 q)) ∧ w.cell? ⟨e.b, e.o + 1, none⟩ = some (.slice none 0 0) ∧ e.o % 2 = 0
  apart : ∀ (i j : Nat) (e f : Job), st[i]? = some e → st[j]? = some f → i ≠ j → ¬ (e.b = f.b ∧ e.o = f.o)
  wand : ∀ w', Filled' w w' U st → RootDone w' R T

theorem EInv.start {w : World} {R : Nat} {t : Ty} (h : w.heap[R]? = some (.cells #[.int .i64 0, .slice none 0 0] 32 (0, 0))) : EInv w (fun b => b = R) [⟨t, R, 0⟩] R t.erase := by
  have hlt := (Array.getElem?_eq_some_iff.1 h).1
  refine ⟨fun b hb => by subst hb; exact ⟨Nat.le_refl _, hlt, _, h⟩, hlt, fun e he => ?_, fun i j e f hi hj hij => ?_, fun w' hf => ?_⟩
  · simp only [List.mem_singleton] at he
    subst he
    exact ⟨rfl, ⟨0, by simp [World.cell?, h]⟩, by simp [World.cell?, h], rfl⟩
  · have h1 := (List.getElem?_eq_some_iff.1 hi).1
    have h2 := (List.getElem?_eq_some_iff.1 hj).1
    simp only [List.length_singleton] at h1 h2
    omega
  · obtain ⟨G, h1, h2, _⟩ := hf.full
    obtain ⟨s', e1, e2, e3⟩ := h1 0 _ rfl
    exact ⟨s', e1, e2, e3.mono (fun b hb => Nat.lt_of_lt_of_le hlt (h2 0 b (by simp) hb))⟩

theorem EInv.done {w : World} {U : Nat → Prop} {R : Nat} {T : Ty} (h : EInv w U [] R T) : RootDone w R T :=
  h.wand w ⟨Nat.le_refl _, fun _ _ _ _ => rfl, fun _ _ cur hc => ⟨cur, hc, rfl⟩, fun _ _ => False, fun i e hi => by simp at hi, fun i z hi => by simp at hi, fun i j z hi => by simp at hi⟩

theorem EInv.frame {w w2 : World} {U : Nat → Prop} {st : List Job} {R : Nat} {T : Ty} (h : EInv w U st R T) (hs : w.heap.size ≤ w2.heap.size) (hU : ∀ c, U c → w2.heap[c]? = w.heap[c]?) : EInv w2 U st R T := by
  have hc : ∀ c q, U c → w2.cell? ⟨c, q, none⟩ = w.cell? ⟨c, q, none⟩ := fun c q hc => World.cell?_of_block (hU c hc)
  refine ⟨fun b hb => ?_, Nat.lt_of_lt_of_le h.root hs, fun e he => ?_, h.apart, fun w' hf => h.wand w' ⟨Nat.le_trans hs hf.size, fun b hb o ho => (hf.same b hb o ho).trans (hc b o hb), fun b hb cur hcur => hf.shape b hb cur ((hU b hb).trans hcur), ?_⟩⟩
  · obtain ⟨h1, h2, cur, h3⟩ := h.lt b hb
    exact ⟨h1, Nat.lt_of_lt_of_le h2 hs, cur, (hU b hb).trans h3⟩
  · obtain ⟨h1, ⟨q, h2⟩, h3, h4⟩ := h.loc e he
    exact ⟨h1, ⟨q, (hc _ _ h1).trans h2⟩, (hc _ _ h1).trans h3, h4⟩
  · obtain ⟨G, g1, g2, g3⟩ := hf.full
    exact ⟨G, g1, fun i z hi hz => Nat.le_trans hs (g2 i z hi hz), g3⟩

/-- The new places in a row: one for each part. -/
def kidsOf (b : Nat) (ys : List Ty) : List Job := ys.mapIdx fun j y => ⟨y, b, j * 2⟩
theorem kidsOf_length (b : Nat) (ys : List Ty) : (kidsOf b ys).length = ys.length := by simp [kidsOf]
theorem kidsOf_at {b : Nat} {ys : List Ty} {j : Nat} {e : Job} (h : (kidsOf b ys)[j]? = some e) : ∃ y, ys[j]? = some y ∧ e = ⟨y, b, j * 2⟩ := by
  simp only [kidsOf, List.getElem?_mapIdx, Option.map_eq_some_iff] at h
  obtain ⟨y, h1, h2⟩ := h
  exact ⟨y, h1, h2.symm⟩
theorem kidsOf_get {b : Nat} {ys : List Ty} {j : Nat} {y : Ty} (h : ys[j]? = some y) : (kidsOf b ys)[j]? = some ⟨y, b, j * 2⟩ := by
  simp [kidsOf, List.getElem?_mapIdx, h]
theorem kidsOf_mem {b : Nat} {ys : List Ty} {e : Job} (h : e ∈ kidsOf b ys) : e.b = b ∧ e.o % 2 = 0 ∧ ∃ j y, ys[j]? = some y ∧ e = ⟨y, b, j * 2⟩ := by
  obtain ⟨j, hj⟩ := List.getElem?_of_mem h
  obtain ⟨y, hy, rfl⟩ := kidsOf_at hj
  exact ⟨rfl, by simp, j, y, hy, rfl⟩

section
variable {w wn : World} {U : Nat → Prop} {st0 : List Job} {x y : Ty} {b o R : Nat} {T : Ty}

/-- The place that is filled next is none of the others. -/
theorem EInv.other (h : EInv w U (st0 ++ [⟨x, b, o⟩]) R T) : Free st0 b o ∧ Free st0 b (o + 1) := by
  have key : ∀ q, q = o ∨ q = o + 1 → Free st0 b q := by
    intro q hq e he hh
    obtain ⟨i, hi⟩ := List.getElem?_of_mem he
    have hil := (List.getElem?_eq_some_iff.1 hi).1
    have h1 := h.apart i st0.length e ⟨x, b, o⟩ (by rw [List.getElem?_append_left hil]; exact hi) (by simp) (by omega)
    have h2 := (h.loc e (List.mem_append_left _ he)).2.2.2
    have h3 := (h.loc ⟨x, b, o⟩ (by simp)).2.2.2
    simp only at h3
    exact h1 ⟨hh.1, by simp only; omega⟩
  exact ⟨key o (Or.inl rfl), key (o + 1) (Or.inr rfl)⟩

/-- A place is filled with a row of places. -/
theorem EInv.node (h : EInv w U (st0 ++ [⟨x, b, o⟩]) R T) (hy : x.erase = .mk y.kind (y.args.map Ty.erase)) (hsz : w.heap.size ≤ wn.heap.size)
    (hsame : ∀ c, U c → ∀ q, ¬ (c = b ∧ (q = o ∨ q = o + 1)) → wn.cell? ⟨c, q, none⟩ = w.cell? ⟨c, q, none⟩)
    (hshape : ∀ c, U c → ∀ cur : Array Value, w.heap[c]? = some (.cells cur 32 (0, 0)) → ∃ cur' : Array Value, wn.heap[c]? = some (.cells cur' 32 (0, 0)) ∧ cur'.size = cur.size)
    (hk : wn.cell? ⟨b, o, none⟩ = some (.int .i64 y.kind)) {b' : Nat} (hb' : w.heap.size ≤ b') (hrow : Row wn b' y.args.length y.args.length (fun _ => 0) (fun _ => .slice none 0 0)) (hm : y.args.length ≤ maxLen)
    (ha : wn.cell? ⟨b, o + 1, none⟩ = some (.slice (some ⟨b', 0, none⟩) y.args.length y.args.length)) :
    EInv wn (fun c => U c ∨ c = b') (st0 ++ kidsOf b' y.args) R T := by
  obtain ⟨hf0, hf1⟩ := h.other
  have hUb : U b := (h.loc ⟨x, b, o⟩ (by simp)).1
  have hne : ∀ c, U c → c ≠ b' := fun c hc e => by have := (h.lt c hc).2.1; omega
  have hb'n := hrow.lt
  refine ⟨fun c hc => ?_, Nat.lt_of_lt_of_le h.root hsz, fun e he => ?_, fun i j e f hi hj hij hh => ?_, fun w' hf => h.wand w' ⟨Nat.le_trans hsz hf.size, fun c hc q hq => ?_, fun c hc cur hcur => ?_, ?_⟩⟩
  · rcases hc with hc | rfl
    · obtain ⟨h1, h2, cur, h3⟩ := h.lt c hc
      obtain ⟨cur', h4, _⟩ := hshape c hc cur h3
      exact ⟨h1, Nat.lt_of_lt_of_le h2 hsz, cur', h4⟩
    · obtain ⟨cur, h1, _⟩ := hrow
      exact ⟨by have := h.root; omega, hb'n, cur, h1⟩
  · rcases List.mem_append.1 he with he | he
    · obtain ⟨h1, ⟨q, h2⟩, h3, h4⟩ := h.loc e (List.mem_append_left _ he)
      have hd : ¬ (e.b = b ∧ (e.o = o ∨ e.o = o + 1)) ∧ ¬ (e.b = b ∧ (e.o + 1 = o ∨ e.o + 1 = o + 1)) := by
        have g0 := hf0 e he
        have g1 := hf1 e he
        have h5 := (h.loc ⟨x, b, o⟩ (by simp)).2.2.2
        simp only at h5
        constructor <;> rintro ⟨e1, e2⟩ <;> omega
      exact ⟨Or.inl h1, ⟨q, (hsame _ h1 _ hd.1).trans h2⟩, (hsame _ h1 _ hd.2).trans h3, h4⟩
    · obtain ⟨h1, h2, j, z, hz, rfl⟩ := kidsOf_mem he
      have hj := (List.getElem?_eq_some_iff.1 hz).1
      exact ⟨Or.inr rfl, ⟨0, hrow.kind hj⟩, hrow.args hj, h2⟩
  · by_cases hi0 : i < st0.length
    · rw [List.getElem?_append_left hi0] at hi
      by_cases hj0 : j < st0.length
      · rw [List.getElem?_append_left hj0] at hj
        exact h.apart i j e f (by rw [List.getElem?_append_left hi0]; exact hi) (by rw [List.getElem?_append_left hj0]; exact hj) hij hh
      · rw [List.getElem?_append_right (by omega)] at hj
        obtain ⟨z, _, rfl⟩ := kidsOf_at hj
        exact hne _ (h.loc e (List.mem_append_left _ (List.mem_of_getElem? hi))).1 hh.1
    · rw [List.getElem?_append_right (by omega)] at hi
      obtain ⟨z, _, rfl⟩ := kidsOf_at hi
      by_cases hj0 : j < st0.length
      · rw [List.getElem?_append_left hj0] at hj
        exact hne _ (h.loc f (List.mem_append_left _ (List.mem_of_getElem? hj))).1 hh.1.symm
      · rw [List.getElem?_append_right (by omega)] at hj
        obtain ⟨z2, _, rfl⟩ := kidsOf_at hj
        have := hh.2
        simp only at this
        omega
  · rw [hf.same c (Or.inl hc) q (fun e he hh => ?_)]
    · exact hsame c hc q (fun hh => hq ⟨x, b, o⟩ (by simp) ⟨hh.1.symm, hh.2⟩)
    · rcases List.mem_append.1 he with he | he
      · exact hq e (List.mem_append_left _ he) hh
      · exact hne c hc ((kidsOf_mem he).1 ▸ hh.1).symm
  · obtain ⟨cur', h1, h2⟩ := hshape c hc cur hcur
    obtain ⟨cur'', h3, h4⟩ := hf.shape c (Or.inl hc) cur' h1
    exact ⟨cur'', h3, h4.trans h2⟩
  · obtain ⟨G, g1, g2, g3⟩ := hf.full
    have hlen : (st0 ++ kidsOf b' y.args).length = st0.length + y.args.length := by rw [List.length_append, kidsOf_length]
    have freeK : ∀ q, Free st0 b q → Free (st0 ++ kidsOf b' y.args) b q := fun q hq e he hh => by
      rcases List.mem_append.1 he with he | he
      · exact hq e he hh
      · exact hne b hUb ((kidsOf_mem he).1 ▸ hh.1).symm
    have kid : ∀ j z, y.args[j]? = some z → ∃ s, w'.cell? ⟨b', j * 2, none⟩ = some (.int .i64 z.erase.kind) ∧ w'.cell? ⟨b', j * 2 + 1, none⟩ = some s ∧ OS w' z.erase.args s (G (st0.length + j)) := by
      intro j z hz
      have := g1 (st0.length + j) ⟨z, b', j * 2⟩ (by rw [List.getElem?_append_right (by omega), show st0.length + j - st0.length = j by omega]; exact kidsOf_get hz)
      exact this
    obtain ⟨cur0, r1, r2, r3, _⟩ := hrow
    obtain ⟨cur', c1, c2⟩ := hf.shape b' (Or.inr rfl) cur0 r1
    classical
    let S : Nat → Value := fun j => if hj : j < y.args.length then Classical.choose (kid j y.args[j] (List.getElem?_eq_getElem hj)) else .slice none 0 0
    have hS : ∀ j z, y.args[j]? = some z → w'.cell? ⟨b', j * 2, none⟩ = some (.int .i64 z.erase.kind) ∧ w'.cell? ⟨b', j * 2 + 1, none⟩ = some (S j) ∧ OS w' z.erase.args (S j) (G (st0.length + j)) := by
      intro j z hz
      obtain ⟨hj, rfl⟩ := List.getElem?_eq_some_iff.1 hz
      have e : S j = Classical.choose (kid j y.args[j] (List.getElem?_eq_getElem hj)) := dif_pos hj
      rw [e]
      exact Classical.choose_spec (kid j y.args[j] (List.getElem?_eq_getElem hj))
    refine ⟨fun i => if i < st0.length then G i else fun z => z = b' ∨ ∃ j, j < y.args.length ∧ G (st0.length + j) z, fun i e hi => ?_, fun i z hi hz => ?_, fun i j z hi hj hij hz1 hz2 => ?_⟩
    · by_cases hi0 : i < st0.length
      · simp only [if_pos hi0]
        rw [List.getElem?_append_left hi0] at hi
        exact g1 i e (by rw [List.getElem?_append_left hi0]; exact hi)
      · simp only [if_neg hi0]
        rw [List.getElem?_append_right (by omega)] at hi
        have hi1 : i - st0.length = 0 := by
          have := (List.getElem?_eq_some_iff.1 hi).1
          simp at this
          omega
        rw [hi1] at hi
        simp at hi
        subst hi
        refine ⟨.slice (some ⟨b', 0, none⟩) y.args.length y.args.length, ?_, ?_, ?_⟩
        · rw [hf.same b (Or.inl hUb) o (freeK o hf0), hk, hy]; rfl
        · rw [hf.same b (Or.inl hUb) (o + 1) (freeK _ hf1), ha]
        · rw [hy]
          have hl : (y.args.map Ty.erase).length = y.args.length := List.length_map _
          have key := OS.row (w := w') (ts := y.args.map Ty.erase) (b := b') (c := y.args.length) (F := fun z => z = b' ∨ ∃ j, j < y.args.length ∧ G (st0.length + j) z)
            (fun j => ((y.args.map Ty.erase)[j]?.getD (.mk 0 [])).kind) S (fun j => G (st0.length + j)) ?_ hm (Or.inl rfl) (fun j z hz => by rw [hz]; rfl) (fun j z hz => ?_) (fun j z hj hz => ?_) (fun i j z hi hj hij h1 h2 => ?_)
          · rw [hl] at key
            exact key
          · refine ⟨cur', c1, by rw [c2, r2], by rw [hl]; exact Nat.le_refl _, fun j hj => ?_⟩
            rw [hl] at hj
            obtain ⟨e1, e2, _⟩ := hS j _ (List.getElem?_eq_getElem hj)
            rw [cell_of_blk' c1] at e1 e2
            refine ⟨?_, e2⟩
            rw [e1]
            simp [hj]
          · rw [List.getElem?_map, Option.map_eq_some_iff] at hz
            obtain ⟨z', hz', rfl⟩ := hz
            exact (hS j z' hz').2.2
          · rw [hl] at hj
            have := g2 (st0.length + j) z (by omega) hz
            exact ⟨Or.inr ⟨j, hj, hz⟩, by omega⟩
          · rw [hl] at hi hj
            exact g3 _ _ z (by omega) (by omega) (by omega) h1 h2
    · by_cases hi0 : i < st0.length
      · simp only [if_pos hi0] at hz
        exact Nat.le_trans hsz (g2 i z (by omega) hz)
      · simp only [if_neg hi0] at hz
        rcases hz with rfl | ⟨j, hj, hz⟩
        · exact hb'
        · exact Nat.le_trans hsz (g2 _ z (by omega) hz)
    · rw [List.length_append, List.length_singleton] at hi hj
      by_cases hi0 : i < st0.length
      · simp only [if_pos hi0] at hz1
        have hj0 : j < st0.length ∨ j = st0.length := by omega
        rcases hj0 with hj0 | rfl
        · simp only [if_pos hj0] at hz2
          exact g3 i j z (by omega) (by omega) hij hz1 hz2
        · simp only [Nat.lt_irrefl, if_false] at hz2
          rcases hz2 with rfl | ⟨m, hm', hz2⟩
          · have := g2 i z (by omega) hz1
            omega
          · exact g3 i _ z (by omega) (by omega) (by omega) hz1 hz2
      · have hi1 : i = st0.length := by omega
        subst hi1
        simp only [Nat.lt_irrefl, if_false] at hz1
        have hj0 : j < st0.length := by omega
        simp only [if_pos hj0] at hz2
        rcases hz1 with rfl | ⟨m, hm', hz1⟩
        · have := g2 j z (by omega) hz2
          omega
        · exact g3 _ j z (by omega) (by omega) (by omega) hz1 hz2

/-- A place is filled with a type without parts. -/
theorem EInv.leaf (h : EInv w U (st0 ++ [⟨x, b, o⟩]) R T) (hy : x.erase = .mk y.kind []) (hsz : w.heap.size ≤ wn.heap.size)
    (hsame : ∀ c, U c → ∀ q, ¬ (c = b ∧ (q = o ∨ q = o + 1)) → wn.cell? ⟨c, q, none⟩ = w.cell? ⟨c, q, none⟩)
    (hshape : ∀ c, U c → ∀ cur : Array Value, w.heap[c]? = some (.cells cur 32 (0, 0)) → ∃ cur' : Array Value, wn.heap[c]? = some (.cells cur' 32 (0, 0)) ∧ cur'.size = cur.size)
    (hk : wn.cell? ⟨b, o, none⟩ = some (.int .i64 y.kind)) (ha : wn.cell? ⟨b, o + 1, none⟩ = some (.slice none 0 0)) : EInv wn U st0 R T := by
  obtain ⟨hf0, hf1⟩ := h.other
  have hUb : U b := (h.loc ⟨x, b, o⟩ (by simp)).1
  refine ⟨fun c hc => ?_, Nat.lt_of_lt_of_le h.root hsz, fun e he => ?_, fun i j e f hi hj hij => ?_, fun w' hf => h.wand w' ⟨Nat.le_trans hsz hf.size, fun c hc q hq => ?_, fun c hc cur hcur => ?_, ?_⟩⟩
  · obtain ⟨h1, h2, cur, h3⟩ := h.lt c hc
    obtain ⟨cur', h4, _⟩ := hshape c hc cur h3
    exact ⟨h1, Nat.lt_of_lt_of_le h2 hsz, cur', h4⟩
  · obtain ⟨h1, ⟨q, h2⟩, h3, h4⟩ := h.loc e (List.mem_append_left _ he)
    have hd : ¬ (e.b = b ∧ (e.o = o ∨ e.o = o + 1)) ∧ ¬ (e.b = b ∧ (e.o + 1 = o ∨ e.o + 1 = o + 1)) := by
      have g0 := hf0 e he
      have g1 := hf1 e he
      have h5 := (h.loc ⟨x, b, o⟩ (by simp)).2.2.2
      simp only at h5
      constructor <;> rintro ⟨e1, e2⟩ <;> omega
    exact ⟨h1, ⟨q, (hsame _ h1 _ hd.1).trans h2⟩, (hsame _ h1 _ hd.2).trans h3, h4⟩
  · have hi0 := (List.getElem?_eq_some_iff.1 hi).1
    have hj0 := (List.getElem?_eq_some_iff.1 hj).1
    exact h.apart i j e f (by rw [List.getElem?_append_left hi0]; exact hi) (by rw [List.getElem?_append_left hj0]; exact hj) hij
  · rw [hf.same c hc q (fun e he hh => hq e (List.mem_append_left _ he) hh)]
    exact hsame c hc q (fun hh => hq ⟨x, b, o⟩ (by simp) ⟨hh.1.symm, hh.2⟩)
  · obtain ⟨cur', h1, h2⟩ := hshape c hc cur hcur
    obtain ⟨cur'', h3, h4⟩ := hf.shape c hc cur' h1
    exact ⟨cur'', h3, h4.trans h2⟩
  · obtain ⟨G, g1, g2, g3⟩ := hf.full
    refine ⟨fun i => if i < st0.length then G i else fun _ => False, fun i e hi => ?_, fun i z hi hz => ?_, fun i j z hi hj hij hz1 hz2 => ?_⟩
    · by_cases hi0 : i < st0.length
      · simp only [if_pos hi0]
        rw [List.getElem?_append_left hi0] at hi
        exact g1 i e hi
      · simp only [if_neg hi0]
        rw [List.getElem?_append_right (by omega)] at hi
        have hi1 : i - st0.length = 0 := by
          have := (List.getElem?_eq_some_iff.1 hi).1
          simp at this
          omega
        rw [hi1] at hi
        simp at hi
        subst hi
        refine ⟨.slice none 0 0, ?_, ?_, ?_⟩
        · rw [hf.same b hUb o hf0, hk, hy]; rfl
        · rw [hf.same b hUb (o + 1) hf1, ha]
        · rw [hy]; exact .none _
    · by_cases hi0 : i < st0.length
      · simp only [if_pos hi0] at hz
        exact Nat.le_trans hsz (g2 i z hi0 hz)
      · simp only [if_neg hi0] at hz
    · by_cases hi0 : i < st0.length
      · by_cases hj0 : j < st0.length
        · simp only [if_pos hi0] at hz1
          simp only [if_pos hj0] at hz2
          exact g3 i j z hi0 hj0 hij hz1 hz2
        · simp only [if_neg hj0] at hz2
      · simp only [if_neg hi0] at hz1
end
end Go.Proofs.YtdofjnjiandcbaaDoor
/- SpecEq: The contract of the model's EqualType. -/
namespace Go.Proofs.YtdofjnjiandcbaaDoor
open Go Go.RowKit

theorem keep6 {w W w1 : World} {p1 p2 p3 p4 p5 p6 : Addr} {v1 v2 v3 v4 v5 v6 : Value} (hb1 : Below W.heap.size W w1) (h : W.cell? p1 = some v1 ∧ W.cell? p2 = some v2 ∧ W.cell? p3 = some v3 ∧ W.cell? p4 = some v4 ∧ W.cell? p5 = some v5 ∧ W.cell? p6 = some v6 ∧ Below w.heap.size w W) :
    w1.cell? p1 = some v1 ∧ w1.cell? p2 = some v2 ∧ w1.cell? p3 = some v3 ∧ w1.cell? p4 = some v4 ∧ w1.cell? p5 = some v5 ∧ w1.cell? p6 = some v6 ∧ Below w.heap.size w w1 := by
  have k : ∀ {p : Addr} {v : Value}, W.cell? p = some v → w1.cell? p = some v := fun h => (hb1.cell (World.block_lt_of_cell? W _ h)).trans h
  exact ⟨k h.1, k h.2.1, k h.2.2.1, k h.2.2.2.1, k h.2.2.2.2.1, k h.2.2.2.2.2.1, h.2.2.2.2.2.2.trans (hb1.mono h.2.2.2.2.2.2.size)⟩

end Go.Proofs.YtdofjnjiandcbaaDoor
/- RangeT: A range over an iterator that keeps memory of its own and reads what the caller laid: what iterator and body owe each other, and the loop's law. Of no program. -/
namespace Go.Proofs.YtdofjnjiandcbaaDoor
open Go Go.RowKit

/-- Every block but those of Cb is as it was. -/
def Holds (Cb : Nat → Prop) (w w' : World) : Prop := w.heap.size ≤ w'.heap.size ∧ ∀ b, b < w.heap.size → ¬ Cb b → w'.heap[b]? = w.heap[b]?
theorem Holds.refl (Cb : Nat → Prop) (w : World) : Holds Cb w w := ⟨Nat.le_refl _, fun _ _ _ => rfl⟩
theorem Holds.trans {Cb : Nat → Prop} {a b c : World} (h : Holds Cb a b) (k : Holds Cb b c) : Holds Cb a c :=
  ⟨Nat.le_trans h.1 k.1, fun i hi hc => (k.2 i (Nat.lt_of_lt_of_le hi h.1) hc).trans (h.2 i hi hc)⟩
theorem Holds.of_below {Cb : Nat → Prop} {w w' : World} (h : Below w.heap.size w w') : Holds Cb w w' := ⟨h.size, fun b hb _ => h.block b hb⟩
theorem Holds.setCell {Cb : Nat → Prop} {w w' : World} (h : Holds Cb w w') (p : Addr) (hp : Cb p.block) (v : Value) : Holds Cb w (w'.setCell p v) :=
  h.trans ⟨((Below.refl p.block w').setCell (Nat.le_refl _) v).size, fun b _ hc => Below.heap_setCell _ _ _ _ (fun e => hc (by rw [e]; exact hp))⟩

/-- What an iterator owes: each of 'all' comes in order, until the body says no. J: what the body keeps between two rounds; it does not mind what happens in blocks from the iterator's start on. -/
def SeqT {α β : Type} (F : Fence) (n : Nat) (P : Program) (g : Nat) (lb : Array Value) (encs : α → Array Value) (key : α → β) (Good : α → World → Prop) (Cb : Nat → Prop) (all : List β) (w : World) : Prop :=
  ∀ (l : Nat) (J Jx : List β → World → Prop) (W : World), Below w.heap.size w W → (∀ pre A B, J pre A → Below W.heap.size A B → J pre B) →
    (∀ pre x W1, J pre W1 → pre ++ [key x] <+: all → Good x W1 → YieldAt F (n - 1) P l (encs x) W1 fun e W' =>
      (e = .returned (.bool true) ∧ J (pre ++ [key x]) W' ∧ Holds Cb W1 W') ∨ (e = .returned (.bool false) ∧ Jx (pre ++ [key x]) W')) →
    J [] W →
    CallsIn F n P g (#[.func (.yield l) #[] #[]] ++ lb) W fun e W' => (∃ v, e = .returned v) ∧ (J all W' ∨ ∃ pre, pre <+: all ∧ Jx pre W')

/-- How a round's body may be left. -/
def postT {β : Type} (Cb : Nat → Prop) (I : List β → World → Prop) (Ix : Code → List β → World → Prop) (xs : List β) (W : World) : Exit → Act → World → Prop
  | .normal, _, W' => Holds Cb W W' ∧ I xs W'
  | .ret, _, W' => Holds Cb W W' ∧ Ix .ret xs W'
  | .exit id, _, W' => Holds Cb W W' ∧ Ix (.exit id) xs W'
  | .goto t, _, W' => Holds Cb W W' ∧ Ix (.goto t) xs W'
  | .panic _, _, _ => False
  | .outgrown, _, _ => False

theorem below_putObj (n : Nat) (W : World) (l : Nat) (o : Obj) (h : n ≤ l) : Below n W (W.putObj l o) :=
  ⟨rfl, rfl, rfl, by simp, fun k hk => World.putObj_heap_other (by omega)⟩

variable {F : Fence} {n : Nat} {P : Program}

/-- THE LOOP OVER SUCH AN ITERATOR. -/
theorem range_law {α β : Type} {g : Operand} {ps : Array Tmp} {assign body : Code} {Q : Exit → Act → World → Prop} {a : Act} {w : World}
    (hro : F.round = none) (h1 : 1 ≤ n) {gf : Nat} {lb : Array Value} (hg : a.eval g = .func (.func gf) #[] lb) (hFg : F.fn gf) (eg : ∀ args w, (callFunc gf args).run P w = .ok (.enter gf args) w)
    {encs : α → Array Value} {key : α → β} {Good : α → World → Prop} {Cb : Nat → Prop} {all : List β} (hseq : SeqT F (n - 1) P gf lb encs key Good Cb all w) (hps : ∀ x, (encs x).size = ps.size) (hCb : ∀ b, Cb b → b < w.heap.size)
    (I : List β → World → Prop) (Ix : Code → List β → World → Prop) (hI : ∀ pre A B, I pre A → Below w.heap.size A B → I pre B) (hIx : ∀ c pre A B, Ix c pre A → Below w.heap.size A B → Ix c pre B)
    (hG : ∀ x A B, Good x A → Below w.heap.size A B → Good x B) (h0 : I [] w)
    (Ax : α → Act → World → Prop) (hAx : ∀ x a' W l r o, Ax x a' W → W.heap[l]? = some (.loop r) → Ax x a' (W.putObj l o))
    (hassign : ∀ (l : Nat) (x : α) (W : World) (K : Act → World → Prop), Good x W → (∀ a' W', Below W.heap.size W W' → Ax x a' W' → K a' W') →
      assign.wpIn (F.inRound l) (n - 1 - 1) P (Exit.then K (fun _ _ _ => False)) { tmps := (ps.zip (encs x)).foldl (fun t (p, v) => t.setIfInBounds p v) a.tmps, defers := [] } W)
    (hbody : ∀ (l : Nat) (pre : List β) (x : α) (a' : Act) (W : World), I pre W → pre ++ [key x] <+: all → Good x W → Ax x a' W → body.wpIn (F.inRound l) (n - 1 - 1) P (postT Cb I Ix (pre ++ [key x]) W) a' W)
    (hdone : ∀ (D : Nat) (W : World), w.heap.size ≤ D → I all W → W.heap[D]? = some (.deferred (some [])) → Q .normal { a with defers := { target := .collected D, args := #[] } :: a.defers } W)
    (hstop : ∀ (D : Nat) (c : Code) (pre : List β) (W : World), w.heap.size ≤ D → pre <+: all → Ix c pre W → W.heap[D]? = some (.deferred (some [])) → c.wpIn F n P Q { a with defers := { target := .collected D, args := #[] } :: a.defers } W) :
    (Code.rangeFunc g ps assign body).wpIn F n P Q a w := by
  refine wpIn_rangeFunc (fun fn hfn => ?_)
  rw [hro]
  -- the record of the loop, in its three states
  let rec_ : LoopState → Option Code → Loop := fun st pe => { state := st, pending := pe, fn, tmps := a.tmps, params := ps, assign, body, defers := w.heap.size }
  let w1 := (w.alloc (.deferred (some []))).alloc (.loop (rec_ .ready none))
  have hs1 : w1.heap.size = w.heap.size + 2 := by simp [w1]
  have hb1 : Below w.heap.size w w1 := ((Below.refl _ w).alloc (Nat.le_refl _) _).alloc (by simp) _
  have hl1 : w1.heap[w.heap.size + 1]? = some (.loop (rec_ .ready none)) := by
    have := World.alloc_heap_new (w.alloc (.deferred (some []))) (.loop (rec_ .ready none))
    rwa [World.size_alloc] at this
  have hd1 : w1.heap[w.heap.size]? = some (.deferred (some [])) := (Below.heap_alloc _ _ _ (by simp)).trans (World.alloc_heap_new w _)
  refine ⟨w.heap.size + 1, [{ target := .collected w.heap.size, args := #[] }], w1, { target := .fn (.func gf) lb, args := #[.func (.yield (w.heap.size + 1)) #[] #[]] }, w1, gf,
    #[.func (.yield (w.heap.size + 1)) #[] #[]] ++ lb, w1, run_enterLoop_outer _ _ _ _ _, by simp only [resolve, hg]; simp [go_sem], fun f' hf' => by simp [Target.leads] at hf'; subst hf'; exact hFg, by simp [invoke, go_sem, eg], fun _ => h1, ?_⟩
  have still : ∀ {A B : World} {k : Nat} {o : Obj}, Below w1.heap.size A B → k < w1.heap.size → A.heap[k]? = some o → B.heap[k]? = some o := fun hb hk h => (hb.block _ hk).trans h
  refine (hseq (w.heap.size + 1)
    (fun pre W => I pre W ∧ W.heap[w.heap.size + 1]? = some (.loop (rec_ .ready none)) ∧ W.heap[w.heap.size]? = some (.deferred (some [])))
    (fun pre W => ∃ c, Ix c pre W ∧ W.heap[w.heap.size + 1]? = some (.loop (rec_ .done (some c))) ∧ W.heap[w.heap.size]? = some (.deferred (some [])))
    w1 hb1 (fun pre A B h hb => ⟨hI pre A B h.1 (hb.mono (by omega)), still hb (by omega) h.2.1, still hb (by omega) h.2.2⟩) ?_ ⟨hI _ _ _ h0 hb1, hl1, hd1⟩).mono ?_
  · -- one round
    rintro pre x W ⟨hi, hl, hd⟩ hpre hgood
    have hy := run_yield (P := P) (args := encs x) hl (hps x)
    refine ⟨fn, _, assign, body, hy, roundIn_of_wpIn hfn (hassign _ x W _ hgood (fun a' Wa hba hax => ?_))⟩
    have hlt : w.heap.size + 1 < W.heap.size := (Array.getElem?_eq_some_iff.1 hl).1
    have hla : Wa.heap[w.heap.size + 1]? = some (.loop (rec_ .ready none)) := (hba.block _ hlt).trans hl
    have hda : Wa.heap[w.heap.size]? = some (.deferred (some [])) := (hba.block _ (by omega)).trans hd
    refine ⟨_, run_beginRound hla rfl, ?_⟩
    have hlta : w.heap.size + 1 < Wa.heap.size := (Array.getElem?_eq_some_iff.1 hla).1
    let busy : Loop := { rec_ .ready none with state := .busy }
    let Wb := Wa.putObj (w.heap.size + 1) (.loop busy)
    have hbb : Below w.heap.size Wa Wb := below_putObj _ _ _ _ (by omega)
    have hlb : Wb.heap[w.heap.size + 1]? = some (.loop busy) := World.putObj_heap_same hlta
    have hdb : Wb.heap[w.heap.size]? = some (.deferred (some [])) := (World.putObj_heap_other (by omega)).trans hda
    have hbwb := (hba.mono (Nat.le_of_lt (by omega : w.heap.size < W.heap.size))).trans hbb
    refine wpIn_mono (hbody _ pre x a' Wb (hI _ _ _ hi hbwb) hpre (hG _ _ _ hgood hbwb) (hAx _ _ _ _ _ _ hax hla)) ?_
    have fin : ∀ (jump : Option Code) (W3 : World), Holds Cb Wb W3 →
        (Instr.endRound (w.heap.size + 1) jump).run P W3 = .ok (.bool jump.isNone) (W3.putObj (w.heap.size + 1) (.loop (rec_ (if jump.isNone then .ready else .done) jump))) ∧
        Below w.heap.size W3 (W3.putObj (w.heap.size + 1) (.loop (rec_ (if jump.isNone then .ready else .done) jump))) ∧
        (W3.putObj (w.heap.size + 1) (.loop (rec_ (if jump.isNone then .ready else .done) jump))).heap[w.heap.size + 1]? = some (.loop (rec_ (if jump.isNone then .ready else .done) jump)) ∧
        (W3.putObj (w.heap.size + 1) (.loop (rec_ (if jump.isNone then .ready else .done) jump))).heap[w.heap.size]? = some (.deferred (some [])) := fun jump W3 hk => by
      have hwb : Wb.heap.size = Wa.heap.size := by simp [Wb]
      have h3 : W3.heap[w.heap.size + 1]? = some (.loop busy) := (hk.2 _ (by omega) (fun hc => by have := hCb _ hc; omega)).trans hlb
      have hd3 : W3.heap[w.heap.size]? = some (.deferred (some [])) := (hk.2 _ (by omega) (fun hc => by have := hCb _ hc; omega)).trans hdb
      exact ⟨run_endRound (P := P) jump h3, below_putObj _ _ _ _ (by omega), World.putObj_heap_same (Array.getElem?_eq_some_iff.1 h3).1, (World.putObj_heap_other (by omega)).trans hd3⟩
    have whole : ∀ W3, Holds Cb Wb W3 → Holds Cb W (W3.putObj (w.heap.size + 1) (.loop (rec_ .ready none))) := fun W3 hk => by
      have hwb : Wb.heap.size = Wa.heap.size := by simp [Wb]
      have hsz := hba.size
      refine ⟨by have := hk.1; simp; omega, fun b hb hc => ?_⟩
      by_cases e : b = w.heap.size + 1
      · subst e
        rw [World.putObj_heap_same (by have := hk.1; omega)]; exact hl.symm
      · rw [World.putObj_heap_other e, hk.2 b (by omega) hc, World.putObj_heap_other e, hba.block b hb]
    rintro e a3 W3 hp
    cases e with
    | normal =>
      obtain ⟨hk, hi3⟩ := hp
      obtain ⟨hr, hb3, hl3, hd3⟩ := fin none W3 hk
      exact ⟨_, _, hr, .inl ⟨rfl, ⟨hI _ _ _ hi3 hb3, hl3, hd3⟩, whole W3 hk⟩⟩
    | ret =>
      obtain ⟨hk, hi3⟩ := hp
      obtain ⟨hr, hb3, hl3, hd3⟩ := fin (some .ret) W3 hk
      exact ⟨_, _, hr, .inr ⟨rfl, .ret, hIx _ _ _ _ hi3 hb3, hl3, hd3⟩⟩
    | exit id =>
      obtain ⟨hk, hi3⟩ := hp
      obtain ⟨hr, hb3, hl3, hd3⟩ := fin (some (.exit id)) W3 hk
      exact ⟨_, _, hr, .inr ⟨rfl, .exit id, hIx _ _ _ _ hi3 hb3, hl3, hd3⟩⟩
    | goto t =>
      obtain ⟨hk, hi3⟩ := hp
      obtain ⟨hr, hb3, hl3, hd3⟩ := fin (some (.goto t)) W3 hk
      exact ⟨_, _, hr, .inr ⟨rfl, .goto t, hIx _ _ _ _ hi3 hb3, hl3, hd3⟩⟩
    | panic ch => exact hp.elim
    | outgrown => exact hp.elim
  · -- the iterator has returned
    rintro e W2 ⟨⟨v, rfl⟩, (⟨hi, hl, hd⟩ | ⟨pre, hpre, c, hi, hl, hd⟩)⟩
    · exact ⟨none, _, run_endLoop (P := P) hl (by simp [rec_]), hdone _ _ (Nat.le_refl _) (hI _ _ _ hi (below_putObj _ _ _ _ (by omega))) ((World.putObj_heap_other (by omega)).trans hd)⟩
    · exact ⟨some c, _, run_endLoop (P := P) hl (by simp [rec_]), hstop _ c pre _ (Nat.le_refl _) hpre (hIx _ _ _ _ hi (below_putObj _ _ _ _ (by omega))) ((World.putObj_heap_other (by omega)).trans hd)⟩
end Go.Proofs.YtdofjnjiandcbaaDoor
/- Aid: Small facts that many texts use: lists, numbers that stay in their range, cells that an append keeps. Of no program. -/
namespace Go.Proofs.YtdofjnjiandcbaaDoor
open Go Go.RowKit

theorem snoc_cases {α : Type} (l : List α) : l = [] ∨ ∃ l0 e, l = l0 ++ [e] := by
  rcases List.eq_nil_or_concat l with h | ⟨l0, e, h⟩
  · exact Or.inl h
  · exact Or.inr ⟨l0, e, by rw [h, List.concat_eq_append]⟩
theorem wrap_in (n : Nat) (h : n ≤ 9223372036854775807) : IntKind.i64.wrap (n : Int) = n := IntWalk.i64_in _ (by omega)
theorem wrap64_nat (n : Nat) (h : n ≤ 9223372036854775807) : wrap64 (n : Int) = n := by
  unfold wrap64
  omega

theorem keepApp {w0 w' : World} {base : Nat} {e : TypeId} {size n : Nat} {v : Value} {xs cs : List Value} {g cap : Nat} (hA : Appd w0 w' base e size v n xs cs g cap) {p : Addr} {u : Value} (h : w0.cell? p = some u) (hne : v.ownBlock ≠ some p.block) : w'.cell? p = some u :=
  (World.cell?_of_block (hA.kept p.block (World.block_lt_of_cell? w0 _ h) hne).1).trans h

theorem two_blk0 (w : World) (A B : Array Value) (tA tB : TypeId) : ((w.alloc (.cells A tA)).alloc (.cells B tB)).drew.heap[w.heap.size]? = some (.cells A tA (0, 0)) := by
  show ((w.alloc (.cells A tA)).alloc (.cells B tB)).heap[w.heap.size]? = _
  rw [Below.heap_alloc _ _ _ (by simp)]
  exact blk_new _ _
theorem two_blk1 (w : World) (A B : Array Value) (tA tB : TypeId) : ((w.alloc (.cells A tA)).alloc (.cells B tB)).drew.heap[w.heap.size + 1]? = some (.cells B tB (0, 0)) := by
  show ((w.alloc (.cells A tA)).alloc (.cells B tB)).heap[w.heap.size + 1]? = _
  have := blk_new (w.alloc (.cells A tA)) (.cells B tB)
  rwa [World.size_alloc] at this

end Go.Proofs.YtdofjnjiandcbaaDoor
/- EraseI: The contract of the program's EraseType. -/
namespace Go.Proofs.YtdofjnjiandcbaaDoor
open Go Go.RowKit

/-- What waits, the next one last: a place with its slice's value. -/
abbrev Jobs := List (Job × Value)
def tcells (st : Jobs) : List Value := st.flatMap fun e => [.int .i64 e.1.x.kind, e.2, .pointer (some ⟨e.1.b, e.1.o, none⟩)]
theorem tcells_length (st : Jobs) : (tcells st).length = st.length * 3 := by
  induction st with
  | nil => rfl
  | cons e st ih => simp only [tcells, List.flatMap_cons, List.length_append, List.length_cons, List.length_nil] at *; omega
theorem tcells_snoc (st : Jobs) (e : Job × Value) : tcells (st ++ [e]) = tcells st ++ [.int .i64 e.1.x.kind, e.2, .pointer (some ⟨e.1.b, e.1.o, none⟩)] := by simp [tcells]
theorem tcells_take (st : Jobs) (e : Job × Value) : (tcells (st ++ [e])).take (st.length * 3) = tcells st := by
  rw [tcells_snoc, ← tcells_length, List.take_left]
theorem tcells_last (st : Jobs) (e : Job × Value) : (tcells (st ++ [e]))[st.length * 3]? = some (.int .i64 e.1.x.kind) ∧ (tcells (st ++ [e]))[st.length * 3 + 1]? = some e.2 ∧ (tcells (st ++ [e]))[st.length * 3 + 2]? = some (.pointer (some ⟨e.1.b, e.1.o, none⟩)) := by
  have h := tcells_length st
  rw [tcells_snoc]
  refine ⟨?_, ?_, ?_⟩ <;> (rw [List.getElem?_append_right (by omega), h]; simp)
def tload (st : Jobs) : Nat := (st.map fun e => e.1.x.nodes).sum
theorem tload_snoc (st : Jobs) (e : Job × Value) : tload (st ++ [e]) = tload st + e.1.x.nodes := by simp [tload]
theorem tload_ge (st : Jobs) : st.length ≤ tload st := by
  induction st with
  | nil => simp [tload]
  | cons e st ih =>
    have := e.1.x.nodes_eq
    simp only [tload, List.map_cons, List.sum_cons, List.length_cons] at *
    omega
theorem OS.bound {w : World} {F : Nat → Prop} {ts : List Ty} {v : Value} (h : OS w ts v F) : OS w ts v (fun b => F b ∧ b < w.heap.size) := by
  induction h with
  | none F => exact .none _
  | row K S G hrow hm hF hk hr hG hd ih =>
    exact .row K S (fun j b => G j b ∧ b < w.heap.size) hrow hm ⟨hF, hrow.lt⟩ hk ih (fun j x hj hx => ⟨⟨(hG j x hj hx.1).1, hx.2⟩, (hG j x hj hx.1).2⟩) (fun i j x hi hj hij h1 h2 => hd i j x hi hj hij h1.1 h2.1)

theorem loop_world3 (w : World) (A B A' : Array Value) (tA tB tA' : TypeId) : ∃ wl : World, ((w.alloc (.cells A tA)).alloc (.cells B tB)).alloc (.cells A' tA') = wl ∧ wl.heap.size = w.heap.size + 1 + 1 + 1 ∧ Below w.heap.size w wl ∧
    wl.heap[w.heap.size]? = some (.cells A tA (0, 0)) ∧ wl.heap[w.heap.size + 1]? = some (.cells B tB (0, 0)) ∧ wl.heap[w.heap.size + 1 + 1]? = some (.cells A' tA' (0, 0)) := by
  have s1 : (w.alloc (.cells A tA)).heap.size = w.heap.size + 1 := by simp
  have s2 : ((w.alloc (.cells A tA)).alloc (.cells B tB)).heap.size = w.heap.size + 1 + 1 := by simp
  refine ⟨_, rfl, by simp, (((Below.refl _ w).alloc (Nat.le_refl _) _).alloc (by simp) _).alloc (by simp; omega) _, ?_, ?_, ?_⟩
  · rw [Below.heap_alloc _ _ _ (by simp; omega), Below.heap_alloc _ _ _ (by simp)]
    exact blk_new _ _
  · rw [Below.heap_alloc _ _ _ (by simp), ← s1]
    exact blk_new _ _
  · rw [← s2]
    exact blk_new _ _

theorem cell_setCell_ne {w : World} {b o c q : Nat} {v : Value} (h : ¬ (c = b ∧ q = o)) : (w.setCell ⟨b, o, none⟩ v).cell? ⟨c, q, none⟩ = w.cell? ⟨c, q, none⟩ := by
  by_cases hc : c = b
  · subst hc
    have hq : q ≠ o := fun e => h ⟨rfl, e⟩
    unfold World.cell?
    simp only [World.setCell, Array.getElem?_modify]
    cases hw : w.heap[c]? with
    | none => simp
    | some ob =>
      simp only [if_true, Option.map_some]
      cases ob <;> simp [Array.getElem?_setIfInBounds_ne (Ne.symm hq)]
  · exact World.cell?_of_block (Below.heap_setCell _ _ _ _ hc)

theorem row_ne {w : World} {base : Nat} {e e' : TypeId} {size n g cap b : Nat} {xs : List Value} {cs : Array Value} {fr : Nat × Nat} (h : w.ownsRow base e size (.slice (some ⟨g, 0, none⟩) n cap) n xs) (hb : w.heap[b]? = some (.cells cs e' fr)) (hne : e' ≠ e) : g ≠ b := by
  rintro rfl
  rcases h.2 with h0 | ⟨g', cap', cur, hv, hg, hblk, _⟩
  · exact absurd h0.1 (by simp)
  · simp only [Value.slice.injEq, Option.some.injEq, Addr.mk.injEq, true_and, and_true] at hv
    obtain ⟨rfl, rfl⟩ := hv
    rw [hb] at hblk
    simp only [Option.some.injEq, Obj.cells.injEq] at hblk
    exact hne hblk.2.1

end Go.Proofs.YtdofjnjiandcbaaDoor
/- SpecErase: The contract of the model's EraseType. -/
namespace Go.Proofs.YtdofjnjiandcbaaDoor
open Go Go.RowKit

/-- Types that have been put one behind the other, each with its slice's value. -/
abbrev Got := List (Ty × Value)
def ecells (st : Got) : List Value := st.flatMap fun e => [.int .i64 e.1.kind, e.2]
theorem ecells_length (st : Got) : (ecells st).length = st.length * 2 := by
  induction st with
  | nil => rfl
  | cons e st ih => simp only [ecells, List.flatMap_cons, List.length_append, List.length_cons, List.length_nil] at *; omega
theorem ecells_snoc (st : Got) (e : Ty × Value) : ecells (st ++ [e]) = ecells st ++ [.int .i64 e.1.kind, e.2] := by simp [ecells]
theorem ecells_at (st : Got) (j : Nat) (h : j < st.length) : (ecells st)[j * 2]? = some (.int .i64 st[j].1.kind) ∧ (ecells st)[j * 2 + 1]? = some st[j].2 := by
  induction st generalizing j with
  | nil => simp at h
  | cons e st ih =>
    cases j with
    | zero => simp [ecells]
    | succ j =>
      have := ih j (by simpa using h)
      have e1 : ecells (e :: st) = [.int .i64 e.1.kind, e.2] ++ ecells st := by simp [ecells]
      rw [e1, List.getElem?_append_right (by simp; omega), List.getElem?_append_right (by simp; omega)]
      simp only [List.length_cons, List.length_nil]
      rw [show (j + 1) * 2 - (0 + 1 + 1) = j * 2 by omega, show (j + 1) * 2 + 1 - (0 + 1 + 1) = j * 2 + 1 by omega]
      exact this

/-- A row that grows: what stands in it, each type in blocks from base on that are not the row's. -/
structure Grow (w : World) (base : Nat) (v : Value) (st : Got) : Prop where
  own : w.ownsRow base 32 2 v st.length (ecells st)
  ts : ∀ e ∈ st, TS w (fun z => base ≤ z ∧ v.ownBlock ≠ some z) e.1.args e.2

theorem Grow.start (w : World) (base : Nat) : Grow w base (.slice none 0 0) [] := ⟨World.ownsRow_nil w base _ 2, fun e he => by cases he⟩
theorem Grow.below {w w' : World} {base : Nat} {v : Value} {st : Got} (h : Grow w base v st) (hb : Below w.heap.size w w') : Grow w' base v st := ⟨row_below h.own hb, fun e he => (h.ts e he).keep hb⟩
theorem Grow.app {w w' : World} {base : Nat} {v : Value} {st : Got} {g cap : Nat} {x : Ty} {s : Value} (h : Grow w base v st) (hA : Appd w w' base 32 2 v st.length (ecells st) [.int .i64 x.kind, s] g cap)
    (hx : TS w (fun z => base ≤ z ∧ v.ownBlock ≠ some z) x.args s) : Grow w' base (.slice (some ⟨g, 0, none⟩) (st.length + 1) cap) (st ++ [(x, s)]) := by
  have key : ∀ {ts : List Ty} {s : Value}, TS w (fun z => base ≤ z ∧ v.ownBlock ≠ some z) ts s → TS w' (fun z => base ≤ z ∧ (Value.slice (some ⟨g, 0, none⟩) (st.length + 1) cap).ownBlock ≠ some z) ts s := fun h1 =>
    (h1.mono (C' := fun z => base ≤ z ∧ v.ownBlock ≠ some z ∧ z < w.heap.size) (fun b hb hl => ⟨hb.1, hb.2, hl⟩)).stays ⟨hA.size, fun b hb hl => (hA.kept b hl hb.2.1).1⟩ |>.mono (fun b hb _ => ⟨hb.1, fun e => (hA.kept b hb.2.2 hb.2.1).2 (by simpa [Value.ownBlock] using e)⟩)
  refine ⟨?_, fun e he => ?_⟩
  · rw [List.length_append, ecells_snoc]
    exact hA.own
  · rcases List.mem_append.1 he with he | he
    · exact key (h.ts e he)
    · simp only [List.mem_singleton] at he
      subst he
      exact key hx
theorem Grow.set {w : World} {base : Nat} {v : Value} {st : Got} (h : Grow w base v st) (b o : Nat) (x : Value) (hb : b < base) : Grow (w.setCell ⟨b, o, none⟩ x) base v st := by
  refine ⟨⟨h.own.1, ?_⟩, fun e he => (h.ts e he).stays (setCell_stays _ _ _ _ _ (by omega))⟩
  rcases h.own.2 with h0 | ⟨g, cap, cur, rfl, hg, hblk, r⟩
  · exact Or.inl h0
  · exact Or.inr ⟨g, cap, cur, rfl, hg, (Below.heap_setCell _ _ _ _ (by show g ≠ b; omega)).trans hblk, r⟩
theorem Grow.all {w : World} {base : Nat} {v : Value} {st : Got} (h : Grow w base v st) : TS w (fun z => base ≤ z) (st.map (·.1)) v := by
  rcases h.own.2 with ⟨rfl, h0⟩ | ⟨g, cap, cur, rfl, hg, hblk, h1, h2, h3, h4⟩
  · obtain rfl := List.eq_nil_of_length_eq_zero h0
    exact .nil _ _
  · by_cases hz : st.length = 0
    · obtain rfl := List.eq_nil_of_length_eq_zero hz
      exact .nil _ _
    · have hlt := (Array.getElem?_eq_some_iff.1 hblk).1
      have hl : (st.map (·.1)).length = st.length := List.length_map _
      have at_ : ∀ j x, (st.map (·.1))[j]? = some x → ∃ hj : j < st.length, x = st[j].1 := fun j x hj => by
        rw [List.getElem?_map, Option.map_eq_some_iff] at hj
        obtain ⟨e, he, rfl⟩ := hj
        obtain ⟨hj, rfl⟩ := List.getElem?_eq_some_iff.1 he
        exact ⟨hj, rfl⟩
      have key := TS.cons (w := w) (C := fun z => base ≤ z) (ts := st.map (·.1)) (b := g) (o := 0) (c := cap) (fun j => (st[j]?.getD (.mk 0 [], .nilIface)).2) (by omega) (by omega) (by unfold maxLen at h2; omega) hg hlt
        (fun j x hj => by
          obtain ⟨hj', rfl⟩ := at_ j x hj
          rw [Nat.zero_add, h.own.cellAt (j * 2) (by omega), (ecells_at st j hj').1])
        (fun j x hj => by
          obtain ⟨hj', rfl⟩ := at_ j x hj
          rw [Nat.zero_add, h.own.cellAt (j * 2 + 1) (by omega), (ecells_at st j hj').2, List.getElem?_eq_getElem hj']
          rfl)
        (fun j x hj => by
          obtain ⟨hj', rfl⟩ := at_ j x hj
          rw [List.getElem?_eq_getElem hj']
          exact (h.ts _ (List.getElem_mem hj')).mono (fun b hb _ => hb.1))
      rw [hl] at key
      exact key

/-- A new type, in blocks from where the heap ended. -/
def NewR (t : Ty) (w : World) (e : Ending) (w' : World) : Prop := ∃ v, e = .returned v ∧ TT w' (fun z => w.heap.size ≤ z) t v ∧ Below w.heap.size w w'

theorem keep3 {W w1 : World} {p1 p2 p3 : Addr} {v1 v2 v3 : Value} (hb1 : Below W.heap.size W w1) (h : W.cell? p1 = some v1 ∧ W.cell? p2 = some v2 ∧ W.cell? p3 = some v3) :
    w1.cell? p1 = some v1 ∧ w1.cell? p2 = some v2 ∧ w1.cell? p3 = some v3 :=
  ⟨(hb1.cell (World.block_lt_of_cell? W _ h.1)).trans h.1, (hb1.cell (World.block_lt_of_cell? W _ h.2.1)).trans h.2.1, (hb1.cell (World.block_lt_of_cell? W _ h.2.2)).trans h.2.2⟩

end Go.Proofs.YtdofjnjiandcbaaDoor
/- EraseTypeLaw: The walk of the law that EraseType answers as its model does, writes into no argument, and owns its answer. -/
namespace Go.Proofs.YtdofjnjiandcbaaDoor
open Go Go.RowKit

theorem eraseK_nodes (k : Int) (es : List Ty) : (eraseK k es).nodes ≤ 1 + nodesS es := by
  unfold eraseK
  split
  · next h =>
    obtain ⟨x, rfl⟩ := List.length_eq_one_iff.1 h.2
    simp [nodesS]
  · simp [Ty.nodes]
mutual
theorem erase_nodes : ∀ t : Ty, t.erase.nodes ≤ t.nodes
  | .mk k ts => by
    have h1 := eraseS_nodes ts
    have h2 := eraseK_nodes k (eraseS ts)
    simp only [Ty.erase, Ty.nodes]
    omega
theorem eraseS_nodes : ∀ ts : List Ty, nodesS (eraseS ts) ≤ nodesS ts
  | [] => Nat.le_refl _
  | t :: ts => by
    have h1 := erase_nodes t
    have h2 := eraseS_nodes ts
    simp only [eraseS, nodesS]
    omega
end
theorem erase_args_nodes (t : Ty) : nodesS t.erase.args ≤ nodesS t.args := by
  have h1 := erase_nodes t
  rw [t.nodes_eq, t.erase.nodes_eq] at h1
  omega

/-- A box that holds a type's two cells. -/
def Bx (w : World) (b : Nat) (k : Int) (s : Value) : Prop := w.cell? ⟨b, 0, none⟩ = some (.int .i64 k) ∧ w.cell? ⟨b, 1, none⟩ = some s
theorem Bx.lt {w : World} {b : Nat} {k : Int} {s : Value} (h : Bx w b k s) : b < w.heap.size := World.block_lt_of_cell? w _ h.1
theorem Bx.stays {w w' : World} {b : Nat} {k : Int} {s : Value} {C : Nat → Prop} (h : Bx w b k s) (hs : Stays C w w') (hc : C b) : Bx w' b k s :=
  ⟨(World.cell?_of_block (w := w) (a := ⟨b, 0, none⟩) (hs.2 b hc h.lt)).trans h.1, (World.cell?_of_block (w := w) (a := ⟨b, 1, none⟩) (hs.2 b hc h.lt)).trans h.2⟩
theorem Bx.keep {w w' : World} {b : Nat} {k : Int} {s : Value} (h : Bx w b k s) (hb : Below w.heap.size w w') : Bx w' b k s := h.stays (C := fun _ => True) (.of_below hb) trivial
theorem Bx.new (w : World) (k : Int) (s : Value) (t : TypeId) : Bx (w.alloc (.cells #[.int .i64 k, s] t)) w.heap.size k s :=
  ⟨cell_of_blk (blk_new w _) 0, cell_of_blk (blk_new w _) 1⟩
theorem TT.stays {w w' : World} {C : Nat → Prop} {t : Ty} {v : Value} (h : TT w C t v) (hs : Stays C w w') : TT w' C t v := by
  obtain ⟨s, hv, h⟩ := h
  exact ⟨s, hv, h.stays hs⟩
theorem OT.stays {w w' : World} {F : Nat → Prop} {t : Ty} {v : Value} (h : OT w t v F) (hs : Stays F w w') : OT w' t v F := by
  obtain ⟨s, hv, h⟩ := h
  exact ⟨s, hv, h.stays hs⟩
theorem alloc_below (w : World) (o : Obj) : Below w.heap.size w (w.alloc o) := (Below.refl _ w).alloc (Nat.le_refl _) o

end Go.Proofs.YtdofjnjiandcbaaDoor
/- TextS: The contracts of the model's text of a type, and FormatType. -/
namespace Go.Proofs.YtdofjnjiandcbaaDoor
open Go Go.RowKit

def StrRet (x : List UInt8) (w : World) (e : Ending) (w' : World) : Prop := e = .returned (.string ⟨x.toArray⟩) ∧ Below w.heap.size w w'
theorem cat_fun (a b : List UInt8) : (⟨#[40]⟩ : ByteArray) ++ ⟨a.toArray⟩ ++ ⟨#[62]⟩ ++ ⟨b.toArray⟩ ++ ⟨#[41]⟩ = ⟨(40 :: (a ++ 62 :: (b ++ [41]))).toArray⟩ := by
  apply ByteArray.ext
  simp
theorem cat_code (a : List UInt8) : (⟨#[60]⟩ : ByteArray) ++ ⟨a.toArray⟩ ++ ⟨#[62]⟩ = ⟨(60 :: (a ++ [62])).toArray⟩ := by
  apply ByteArray.ext
  simp
theorem keepS6 {w W w1 : World} {p1 p2 p3 p4 p5 : Addr} {v1 v2 v3 v4 v5 : Value} (hb1 : Below W.heap.size W w1) (h : W.cell? p1 = some v1 ∧ W.cell? p2 = some v2 ∧ W.cell? p3 = some v3 ∧ W.cell? p4 = some v4 ∧ W.cell? p5 = some v5 ∧ Below w.heap.size w W) :
    w1.cell? p1 = some v1 ∧ w1.cell? p2 = some v2 ∧ w1.cell? p3 = some v3 ∧ w1.cell? p4 = some v4 ∧ w1.cell? p5 = some v5 ∧ Below w.heap.size w w1 := by
  have k : ∀ {p : Addr} {v : Value}, W.cell? p = some v → w1.cell? p = some v := fun {p v} hp => (hb1.cell (World.block_lt_of_cell? W _ hp)).trans hp
  obtain ⟨h1, h2, h3, h4, h5, h6⟩ := h
  exact ⟨k h1, k h2, k h3, k h4, k h5, h6.trans (hb1.mono h6.size)⟩

set_option maxRecDepth 100000 in
set_option maxHeartbeats 1000000 in
theorem spText_any {w0 : World} {C : Nat → Prop} {ts : List Ty} {v : Value} (h : TS w0 C ts v) : ∀ (w : World) (q : Int), Stays C w0 w → nodesS ts ≤ 2097152 → (Ty.mk q ts).form = true →
    Calls Tryd.prog 48 #[.agg #[.int .i64 q, v]] w (StrRet (Ty.mk q ts).text w) := by
  refine TS.ind (motive := fun ts v => ∀ (w : World) (q : Int), Stays C w0 w → nodesS ts ≤ 2097152 → (Ty.mk q ts).form = true → Calls Tryd.prog 48 #[.agg #[.int .i64 q, v]] w (StrRet (Ty.mk q ts).text w)) ?_ h
  intro ts p c hl H w q hst hn hf
  have HH := Lib.hid H
  have HST := Lib.hid hst
  clear H hst
  have HB0 := Lib.hid ((alloc_below w (.cells #[.int .i64 q, .slice p ts.length c] 32)).drew)
  have HBA := Lib.hid (alloc_below w (.cells #[.int .i64 q, .slice p ts.length c] 32))
  rcases form_cases hf with hc | hc | ⟨a, b, hc, ha, hb⟩ | ⟨a, hc, ha⟩
  · cases hc
    rw [text_int]
    go_enter Tryd.func48, Tryd.ntmps48
    go_wp2_with fail
    go_ret
    exact ⟨rfl, HBA.out⟩
  · cases hc
    rw [text_bool]
    go_enter Tryd.func48, Tryd.ntmps48
    go_wp2_with fail
    go_ret
    exact ⟨rfl, HBA.out⟩
  · cases hc
    rw [text_fun]
    clear hf
    obtain ⟨b0, o, p1, c1, rfl, hcs1, hT1, hI1⟩ := HH.out 0 a rfl
    obtain ⟨b1, o1, p2, c2, hp2, hcs2, hT2, hI2⟩ := HH.out 1 b rfl
    simp only [Option.some.injEq, Addr.mk.injEq, and_true] at hp2
    obtain ⟨rfl, rfl⟩ := hp2
    have na : a.nodes ≤ 2097152 := by simp only [nodesS] at hn; omega
    have nb : b.nodes ≤ 2097152 := by simp only [nodesS] at hn; omega
    have la := text_le _ a (Nat.le_refl _) ha
    have lb := text_le _ b (Nat.le_refl _) hb
    have nA : nodesS a.args ≤ 2097152 := by rw [a.nodes_eq] at na; omega
    have nB : nodesS b.args ≤ 2097152 := by rw [b.nodes_eq] at nb; omega
    have HA := Lib.hid (fun (W : World) (hW : Below w.heap.size w W) => (hI1 W a.kind (HST.out.trans (.of_below hW)) nA (by rw [← a.eta]; exact ha)).mono (R' := fun e w' => e = .returned (.string ⟨a.text.toArray⟩) ∧ Below w.heap.size w w' ∧ Below W.heap.size W w')
      (by rintro e w' ⟨rfl, hb⟩; exact ⟨by rw [← a.eta], hW.trans (hb.mono hW.size), hb⟩))
    have HB := Lib.hid (fun (W : World) (hW : Below w.heap.size w W) => (hI2 W b.kind (HST.out.trans (.of_below hW)) nB (by rw [← b.eta]; exact hb)).mono (R' := fun e w' => e = .returned (.string ⟨b.text.toArray⟩) ∧ Below w.heap.size w w' ∧ Below W.heap.size W w')
      (by rintro e w' ⟨rfl, hb⟩; exact ⟨by rw [← b.eta], hW.trans (hb.mono hW.size), hb⟩))
    have g1 := hcs1 _ (HST.out.trans (.of_below HB0.out))
    have g2 := hcs2 _ (HST.out.trans (.of_below HB0.out))
    simp only [Nat.zero_mul, Nat.one_mul, Nat.add_zero, List.length_cons, List.length_nil, Nat.zero_add, Nat.reduceAdd] at g1 g2 HB0 HBA ⊢
    obtain ⟨g10, g11⟩ := g1
    obtain ⟨g20, g21⟩ := g2
    have LA := Lib.hid la
    have LB := Lib.hid lb
    have lat : a.text.length ≤ 6291456 := by omega
    have lbt : b.text.length ≤ 6291456 := by omega
    have x1 : ¬ 9223372036854775807 < 1 + a.text.length := by omega
    have x2 : ¬ 9223372036854775807 < 1 + a.text.length + 1 := by omega
    have x3 : ¬ 9223372036854775807 < 1 + a.text.length + 1 + b.text.length := by omega
    have x4 : ¬ 9223372036854775807 < 1 + a.text.length + 1 + b.text.length + 1 := by omega
    clear hcs1 hcs2 hT1 hT2 hI1 hI2 la lb na nb nA nB lat lbt
    go_enter Tryd.func48, Tryd.ntmps48
    go_wp2_with fail
    go_region_held3 (fun w' => w'.cell? ⟨w.heap.size, 1, none⟩ = some (.slice (some ⟨b0, o, none⟩) 2 c) ∧ w'.cell? ⟨b0, o, none⟩ = some (.int .i64 a.kind) ∧ w'.cell? ⟨b0, o + 1, none⟩ = some (.slice p1 a.args.length c1) ∧ w'.cell? ⟨b0, o + 2, none⟩ = some (.int .i64 b.kind) ∧ w'.cell? ⟨b0, o + 2 + 1, none⟩ = some (.slice p2 b.args.length c2) ∧ Below w.heap.size w w')
      (first
        | (go_keep; done)
        | exact ⟨by simp [*], by simp [*], by simp [*], by simp [*], by simp [*], HB0.out⟩
        | exact keepS6 hb1 (by assumption)
        | exact keepS6 hb2 (by assumption))
      (first
        | (go_at_call_of 48 (Value.agg #[.int .i64 a.kind, .slice p1 a.args.length c1]); (first | refine (HA.out _ HB0.out).mono ?_ | refine (HA.out _ hx2).mono ?_); rintro e w1 ⟨rfl, hx1, hb1⟩)
        | (go_at_call_of 48 (Value.agg #[.int .i64 b.kind, .slice p2 b.args.length c2]); (first | refine (HB.out _ HB0.out).mono ?_ | refine (HB.out _ hx1).mono ?_); rintro e w2 ⟨rfl, hx2, hb2⟩))
    go_wp2_with fail
    rename_i hH
    go_ret
    exact ⟨by rw [cat_fun]; rfl, hH.2.2.2.2.2⟩
  · cases hc
    rw [text_code]
    clear hf
    obtain ⟨b0, o, p1, c1, rfl, hcs1, hT1, hI1⟩ := HH.out 0 a rfl
    have na : a.nodes ≤ 2097152 := by simp only [nodesS] at hn; omega
    have la := text_le _ a (Nat.le_refl _) ha
    have nA : nodesS a.args ≤ 2097152 := by rw [a.nodes_eq] at na; omega
    have HA := Lib.hid (fun (W : World) (hW : Below w.heap.size w W) => (hI1 W a.kind (HST.out.trans (.of_below hW)) nA (by rw [← a.eta]; exact ha)).mono (R' := fun e w' => e = .returned (.string ⟨a.text.toArray⟩) ∧ Below w.heap.size w w')
      (by rintro e w' ⟨rfl, hb⟩; exact ⟨by rw [← a.eta], hW.trans (hb.mono hW.size)⟩))
    have g1 := hcs1 _ (HST.out.trans (.of_below HBA.out))
    simp only [Nat.zero_mul, Nat.add_zero, List.length_cons, List.length_nil, Nat.zero_add] at g1 HBA ⊢
    obtain ⟨g10, g11⟩ := g1
    have LA := Lib.hid la
    have lat : a.text.length ≤ 6291456 := by omega
    clear hcs1 hT1 hI1 la na nA
    go_enter Tryd.func48, Tryd.ntmps48
    go_wp2_with fail
    refine (HA.out _ HBA.out).mono ?_
    rintro e w1 ⟨rfl, hx1⟩
    have HX := Lib.hid hx1
    clear hx1
    go_wp2_with fail
    go_ret
    exact ⟨by rw [cat_code]; rfl, HX.out⟩

end Go.Proofs.YtdofjnjiandcbaaDoor
/- Strs: Slices of strings, of no program: what a slice holds, and that it holds it in every later world; a slice that a call made itself. -/
namespace Go.Proofs.YtdofjnjiandcbaaDoor
open Go Go.RowKit

/-- The strings' bytes. -/
def bs (xs : List ByteArray) : List (List UInt8) := xs.map (·.data.toList)
theorem bs_inj {a b : List ByteArray} (h : bs a = bs b) : a = b := by
  induction a generalizing b with
  | nil =>
    cases b with
    | nil => rfl
    | cons y b => simp [bs] at h
  | cons x a ih =>
    cases b with
    | nil => simp [bs] at h
    | cons y b =>
      simp only [bs, List.map_cons, List.cons.injEq] at h
      rw [ih h.2]
      obtain ⟨⟨x⟩⟩ := x
      obtain ⟨⟨y⟩⟩ := y
      rw [show x = y from h.1]

/-- The slice v holds just the strings xs. -/
def SS (w : World) (v : Value) (xs : List ByteArray) : Prop :=
  (xs = [] ∧ ∃ a c, v = .slice a 0 c) ∨
  (1 ≤ xs.length ∧ ∃ b o c, v = .slice (some ⟨b, o, none⟩) xs.length c ∧ xs.length ≤ c ∧ b < w.heap.size ∧ ∀ j x, xs[j]? = some x → w.cell? ⟨b, o + j, none⟩ = some (.string x))

theorem SS.below {w w' : World} {v : Value} {xs : List ByteArray} (h : SS w v xs) (hb : Below w.heap.size w w') : SS w' v xs := by
  rcases h with h | ⟨h1, b, o, c, rfl, hc, hlt, hcell⟩
  · exact Or.inl h
  · exact Or.inr ⟨h1, b, o, c, rfl, hc, Nat.lt_of_lt_of_le hlt hb.size, fun j x hj => (hb.cell (p := ⟨b, o + j, none⟩) hlt).trans (hcell j x hj)⟩

/-- A row of the call's own stands in every later world. -/
theorem ownsRow_below {w w' : World} {base : Nat} {e : TypeId} {size n : Nat} {v : Value} {xs : List Value} (h : w.ownsRow base e size v n xs) (hb : Below w.heap.size w w') : w'.ownsRow base e size v n xs := by
  refine ⟨h.1, ?_⟩
  rcases h.2 with h0 | ⟨g, cap, cur, rfl, hg, hblk, h1, h2, h3, h4⟩
  · exact Or.inl h0
  · refine Or.inr ⟨g, cap, cur, rfl, hg, ?_, h1, h2, h3, h4⟩
    have hlt : g < w.heap.size := by
      rcases Nat.lt_or_ge g w.heap.size with h' | h'
      · exact h'
      · rw [Array.getElem?_eq_none h'] at hblk; cases hblk
    rw [hb.block g hlt]; exact hblk

theorem ownsRow_mono {w : World} {base base' : Nat} {e : TypeId} {size n : Nat} {v : Value} {xs : List Value} (h : w.ownsRow base e size v n xs) (hb : base' ≤ base) : w.ownsRow base' e size v n xs := by
  refine ⟨h.1, ?_⟩
  rcases h.2 with h0 | ⟨g, cap, cur, rfl, hg, h'⟩
  · exact Or.inl h0
  · exact Or.inr ⟨g, cap, cur, rfl, Nat.le_trans hb hg, h'⟩

/-- A row of the call's own, as a slice of strings. -/
theorem SS_of_row {w : World} {base : Nat} {e : TypeId} {n : Nat} {v : Value} {xs : List ByteArray} (h : w.ownsRow base e 1 v n (xs.map Value.string)) : SS w v xs := by
  have hn : xs.length = n := by simpa using h.1
  rcases h.2 with ⟨rfl, h0⟩ | ⟨g, cap, cur, rfl, hg, hblk, h1, h2, h3, h4⟩
  · exact Or.inl ⟨List.eq_nil_of_length_eq_zero (by omega), _, _, rfl⟩
  · by_cases hz : n = 0
    · subst hz
      exact Or.inl ⟨List.eq_nil_of_length_eq_zero hn, _, _, rfl⟩
    · have hlt : g < w.heap.size := by
        rcases Nat.lt_or_ge g w.heap.size with h' | h'
        · exact h'
        · rw [Array.getElem?_eq_none h'] at hblk; cases hblk
      refine Or.inr ⟨by omega, g, 0, cap, by rw [hn], by omega, hlt, fun j x hj => ?_⟩
      have hj1 : j < n := by
        have := (List.getElem?_eq_some_iff.1 hj).1
        omega
      rw [Nat.zero_add, World.ownsRow.cellAt (xs := xs.map Value.string) (cap := cap) (n := n) h j (by omega), List.getElem?_map, hj]
      rfl
end Go.Proofs.YtdofjnjiandcbaaDoor
/- JoinSpec: The contract of the model's Join: the strings put together with the separator between them. -/
namespace Go.Proofs.YtdofjnjiandcbaaDoor
open Go Go.RowKit

theorem infoByte : (Tryd.prog.info? 5).map (fun i => (i.zero, i.size, i.bytes)) = some (some (.int .u8 0), 1, 1) := by kernel_rfl

/-- The first k strings, put together. -/
def J (xs : List ByteArray) (sep : ByteArray) (k : Nat) : List UInt8 := Lib.join ((bs xs).take k) sep.data.toList
def bc (l : List UInt8) : List Value := l.map fun b => Value.int .u8 b.toNat
theorem bc_append (a b : List UInt8) : bc (a ++ b) = bc a ++ bc b := by simp [bc]
theorem J_zero (xs : List ByteArray) (sep : ByteArray) : J xs sep 0 = [] := by simp [J, Lib.join_nil]
theorem J_all (xs : List ByteArray) (sep : ByteArray) : J xs sep xs.length = Lib.join (bs xs) sep.data.toList := by
  unfold J; rw [List.take_of_length_le (by simp [bs])]
theorem J_one (xs : List ByteArray) (sep : ByteArray) (h : 0 < xs.length) : J xs sep 1 = (xs[0]).data.toList := by
  cases xs with
  | nil => simp at h
  | cons x r => simp [J, bs, Lib.join_one]
theorem J_step (xs : List ByteArray) (sep : ByteArray) (k : Nat) (h : k < xs.length) (h1 : 1 ≤ k) : J xs sep (k + 1) = J xs sep k ++ sep.data.toList ++ (xs[k]).data.toList := by
  cases xs with
  | nil => simp at h
  | cons x r =>
    obtain ⟨j, rfl⟩ : ∃ j, k = j + 1 := ⟨k - 1, by omega⟩
    have hj : j < r.length := by simpa using h
    simp only [J, bs, List.map_cons, List.take_succ_cons, Lib.join_cons]
    rw [Lib.joinTail_take_succ _ _ j (r[j]).data.toList (by rw [List.getElem?_map, List.getElem?_eq_getElem hj]; rfl)]
    simp [List.append_assoc]
theorem J_le (xs : List ByteArray) (sep : ByteArray) (k : Nat) : (J xs sep k).length ≤ (Lib.join (bs xs) sep.data.toList).length := by
  cases xs with
  | nil => simp [J, bs, Lib.join_nil]
  | cons x r =>
    cases k with
    | zero => simp [J, Lib.join_nil]
    | succ k =>
      simp only [J, bs, List.map_cons, List.take_succ_cons, Lib.join_cons, List.length_append]
      have := Lib.joinTail_take_le sep.data.toList (r.map (·.data.toList)) k
      omega
theorem row_one {xs : List ByteArray} {sep : ByteArray} {w : World} {base : Nat} {e : TypeId} {v : Value} (h0 : 0 < xs.length)
    (h : w.ownsRow base e 1 v (xs[0]).size (Lib.strCells xs[0])) : w.ownsRow base e 1 v (J xs sep 1).length (bc (J xs sep 1)) := by
  rw [J_one xs sep h0, ← Lib.size_eq]
  exact h
theorem row_step {xs : List ByteArray} {sep : ByteArray} {k : Nat} {w : World} {base : Nat} {e : TypeId} {v : Value} (hk : k < xs.length) (h1 : 1 ≤ k)
    (h : w.ownsRow base e 1 v ((J xs sep k).length + sep.size + (xs[k]).size) (bc (J xs sep k) ++ (Lib.strCells sep ++ Lib.strCells xs[k]))) : w.ownsRow base e 1 v (J xs sep (k + 1)).length (bc (J xs sep (k + 1))) := by
  rw [J_step xs sep k hk h1, List.length_append, List.length_append, ← Lib.size_eq, ← Lib.size_eq, bc_append, bc_append, List.append_assoc]
  exact h
theorem len_step {xs : List ByteArray} {sep : ByteArray} {k : Nat} (hk : k < xs.length) (h1 : 1 ≤ k) : (J xs sep k).length + sep.size + (xs[k]).size ≤ (Lib.join (bs xs) sep.data.toList).length := by
  have h := J_le xs sep (k + 1)
  rw [J_step xs sep k hk h1, List.length_append, List.length_append, ← Lib.size_eq, ← Lib.size_eq] at h
  exact h
theorem len_one {xs : List ByteArray} {sep : ByteArray} (h0 : 0 < xs.length) : (xs[0]).size ≤ (Lib.join (bs xs) sep.data.toList).length := by
  have h := J_le xs sep 1
  rw [J_one xs sep h0, ← Lib.size_eq] at h
  exact h
/-- A row of bytes of the call's own, made a string. -/
theorem string_of_row {w : World} {base : Nat} {v : Value} {l : List UInt8} (h : w.ownsRow base 5 1 v l.length (bc l)) : (convert 45 9 v).run Tryd.prog w = .ok (.string ⟨l.toArray⟩) w := by
  have h' := h
  rcases h.2 with ⟨rfl, h0⟩ | ⟨g, cap, cur, rfl, hg, hblk, h1, h2, h3, h4⟩
  · rw [List.eq_nil_of_length_eq_zero h0]
    exact Lib.run_convert_nil_bytes w _ _ _ 0 Tryd.underlying45 Tryd.underlying5 Tryd.underlying9
  · refine run_convert_bytes_back w _ _ _ _ cap l Tryd.underlying45 Tryd.underlying5 Tryd.underlying9 (fun j hj => ?_)
    refine h'.cells rfl j _ ?_
    unfold bc
    rw [List.getElem?_map, List.getElem?_eq_getElem hj]; rfl

set_option maxRecDepth 100000 in
set_option maxHeartbeats 1000000 in
theorem joinS_some (xs : List ByteArray) (sep : ByteArray) (b o c : Nat) (w : World) (h1 : 1 ≤ xs.length) (hn : xs.length ≤ 9223372036854775807) (hb : b < w.heap.size)
    (hlen : (Lib.join (bs xs) sep.data.toList).length ≤ 140737488355328) (hcell : ∀ j x, xs[j]? = some x → w.cell? ⟨b, o + j, none⟩ = some (.string x)) :
    Calls Tryd.prog 47 #[.slice (some ⟨b, o, none⟩) xs.length c, .string sep] w fun e w' => e = .returned (.string ⟨(Lib.join (bs xs) sep.data.toList).toArray⟩) ∧ Below w.heap.size w w' := by
  obtain ⟨i0, hi, hz0, hz1, hz2⟩ := info_parts infoByte
  have HC := Lib.hid hcell
  clear hcell
  go_enter Tryd.func47, Tryd.ntmps47
  go_wp2_with fail
  go_loopw [5, 6] (fun v i wr => ∃ k : Nat, k ≤ xs.length ∧ i = .int .i64 k ∧ wr.ownsRow w.heap.size 5 1 v (J xs sep k).length (bc (J xs sep k)) ∧ Below w.heap.size w wr) (fun _ i _ => xs.length - (intOf i).toNat)
  case atStart =>
    refine ⟨0, Nat.zero_le _, rfl, ?_, (Below.refl _ _).alloc (Nat.le_refl _) _⟩
    rw [J_zero]
    exact World.ownsRow_lit w #[] 0 (Nat.le_refl _) (Nat.zero_le _) rfl
  case round =>
    obtain ⟨k, hk, rfl, hown, hbr⟩ := hrel
    by_cases hlk : k < xs.length
    · have c1 : wr.cell? ⟨b, o + k, none⟩ = some (.string xs[k]) := (hbr.cell (p := ⟨b, o + k, none⟩) hb).trans (HC.out k _ (List.getElem?_eq_getElem hlk))
      have hsz := hbr.size
      by_cases hz : k = 0
      · subst hz
        have hL := len_one (sep := sep) hlk
        have c0 : wr.cell? ⟨b, o, none⟩ = some (.string xs[0]) := c1
        clear c1
        have HO := Lib.hid (show wr.ownsRow w.heap.size 5 1 u5 0 [] by rw [J_zero] at hown; exact hown)
        have HB := Lib.hid hbr
        clear hown hbr
        go_wp2_with (at_builtin; refine Lib.wpList_append_own_string _ rfl (.tmp 19) (.tmp 23) 45 9 rfl w.heap.size 5 i0 Tryd.underlying45 Tryd.underlying9 hi hz0 hz1 hz2 _ _ _ rfl HO.out xs[0] rfl ?c1 ?c2 ?c3 ?_)
        case c1 => unfold maxLen; omega
        case c2 => omega
        case c3 => exact hsz
        intro v' w2 hown2 hg _
        have hb2 : Below w.heap.size w w2 := HB.out.grown hg hsz (fun k h => (HO.out.lt k h).1)
        have HR := Lib.hid (row_one (sep := sep) hlk hown2)
        clear hg hown2
        go_wp2_with fail
        go_roundw
        case rel => exact ⟨1, by omega, by go_num, HR.out, hb2⟩
        case measure => simp [intOf]; omega
      · have hL := len_step (sep := sep) hlk (by omega)
        have HO := Lib.hid hown
        have HB := Lib.hid hbr
        clear hown hbr
        go_wp2_with (at_builtin; refine Lib.wpList_append_own_string _ rfl (.tmp 16) (.tmp 17) 45 9 rfl w.heap.size 5 i0 Tryd.underlying45 Tryd.underlying9 hi hz0 hz1 hz2 _ _ _ rfl HO.out sep rfl ?c1 ?c2 ?c3 ?_)
        case c1 => unfold maxLen; omega
        case c2 => omega
        case c3 => exact hsz
        intro v' w2 hown2 hg _
        have hb2 : Below w.heap.size w w2 := HB.out.grown hg hsz (fun k h => (HO.out.lt k h).1)
        have c2 : w2.cell? ⟨b, o + k, none⟩ = some (.string xs[k]) := (hb2.cell (p := ⟨b, o + k, none⟩) hb).trans (HC.out k _ (List.getElem?_eq_getElem hlk))
        have hsz2 := hb2.size
        have HO2 := Lib.hid hown2
        have HB2 := Lib.hid hb2
        clear hg hown2 hb2
        go_wp2_with (at_builtin; refine Lib.wpList_append_own_string _ rfl (.tmp 19) (.tmp 23) 45 9 rfl w.heap.size 5 i0 Tryd.underlying45 Tryd.underlying9 hi hz0 hz1 hz2 _ _ _ rfl HO2.out xs[k] rfl ?c1 ?c2 ?c3 ?_)
        case c1 => unfold maxLen; omega
        case c2 => omega
        case c3 => exact hsz2
        intro v3 w3 hown3 hg3 _
        have hb3 : Below w.heap.size w w3 := HB2.out.grown hg3 hsz2 (fun k h => (HO2.out.lt k h).1)
        have HR := Lib.hid (row_step hlk (by omega) hown3)
        clear hg3 hown3
        go_wp2_with fail
        go_roundw
        case rel => exact ⟨k + 1, by omega, by go_num, HR.out, hb3⟩
        case measure => simp [intOf]; omega
    · obtain rfl : k = xs.length := by omega
      rw [J_all] at hown
      have kc := string_of_row hown
      clear hown
      go_wp2_with fail
      go_ret
      exact ⟨rfl, hbr⟩

set_option maxRecDepth 100000 in
set_option maxHeartbeats 1000000 in
theorem joinS_none (a : Option Addr) (c : Nat) (sep : ByteArray) (w : World) :
    Calls Tryd.prog 47 #[.slice a 0 c, .string sep] w fun e w' => e = .returned (.string ⟨#[]⟩) ∧ Below w.heap.size w w' := by
  have kc : ∀ wx : World, wx.ownsRow w.heap.size 5 1 (.slice (some ⟨w.heap.size, 0, none⟩) 0 0) 0 [] → (convert 45 9 (.slice (some ⟨w.heap.size, 0, none⟩) 0 0)).run Tryd.prog wx = .ok (.string ⟨#[]⟩) wx :=
    fun wx h => string_of_row (l := []) h
  have k1 := kc (w.alloc (.cells #[] 5)) (World.ownsRow_lit w #[] 0 (Nat.le_refl _) (Nat.zero_le _) rfl)
  clear kc
  go_enter Tryd.func47, Tryd.ntmps47
  go_wp2_with fail
  go_loopw [5, 6] (fun v i wr => v = .slice (some ⟨w.heap.size, 0, none⟩) 0 0 ∧ i = .int .i64 0 ∧ wr = w.alloc (.cells #[] 5)) (fun _ _ _ => 0)
  case atStart => exact ⟨rfl, rfl, rfl⟩
  case round =>
    obtain ⟨rfl, rfl, rfl⟩ := hrel
    go_wp2_with fail
    go_ret
    exact ⟨rfl, (Below.refl _ _).alloc (Nat.le_refl _) _⟩

/-- THE MODEL's Join, AT EVERY SLICE OF STRINGS. -/
theorem joinS_any (xs : List ByteArray) (v : Value) (sep : ByteArray) (w : World) (hn : xs.length ≤ 9223372036854775807) (hlen : (Lib.join (bs xs) sep.data.toList).length ≤ 140737488355328) (h : SS w v xs) :
    Calls Tryd.prog 47 #[v, .string sep] w fun e w' => e = .returned (.string ⟨(Lib.join (bs xs) sep.data.toList).toArray⟩) ∧ Below w.heap.size w w' := by
  rcases h with ⟨rfl, a, c, rfl⟩ | ⟨h1, b, o, c, rfl, _, hb, hcell⟩
  · exact joinS_none a c sep w
  · exact joinS_some xs sep b o c w h1 hn hb hlen hcell
#print axioms joinS_any
end Go.Proofs.YtdofjnjiandcbaaDoor
/- Copy: The contract of the laws' toStringS: a new slice with the same strings. -/
namespace Go.Proofs.YtdofjnjiandcbaaDoor
open Go Go.RowKit

theorem infoStr : (Tryd.prog.info? 9).map (fun i => (i.zero, i.size, i.bytes)) = some (some (.string ⟨#[]⟩), 1, 16) := by kernel_rfl

def Filled (xs : List ByteArray) (k : Nat) : List Value := (xs.take k).map Value.string ++ List.replicate (xs.length - k) (.string ⟨#[]⟩)
theorem filled_zero (xs : List ByteArray) : Filled xs 0 = List.replicate xs.length (.string ⟨#[]⟩) := by simp [Filled]
theorem filled_all (xs : List ByteArray) : Filled xs xs.length = xs.map Value.string := by simp [Filled]
theorem filled_step (xs : List ByteArray) (k : Nat) (h : k < xs.length) : (Filled xs k).set k (.string xs[k]) = Filled xs (k + 1) := by
  have e : (xs.take (k + 1)).map Value.string = (xs.take k).map Value.string ++ [Value.string xs[k]] := by
    rw [List.take_add_one, List.getElem?_eq_getElem h, List.map_append]; rfl
  have hl : ((xs.take k).map Value.string).length = k := by rw [List.length_map, List.length_take]; omega
  unfold Filled
  rw [e, show xs.length - k = (xs.length - (k + 1)) + 1 by omega, List.replicate_succ, List.set_append_right _ _ (by omega), hl, Nat.sub_self, List.set_cons_zero, List.append_assoc]
  rfl

theorem filled_at (xs : List ByteArray) (k : Nat) (h : k < xs.length) : (Filled xs k)[k]? = some (.string ⟨#[]⟩) := by
  have hl : ((xs.take k).map Value.string).length = k := by rw [List.length_map, List.length_take]; omega
  unfold Filled
  rw [List.getElem?_append_right (by omega), hl, Nat.sub_self, show xs.length - k = (xs.length - (k + 1)) + 1 by omega, List.replicate_succ]
  rfl

end Go.Proofs.YtdofjnjiandcbaaDoor
/- AppS: Appending one string to a slice of strings that the call made itself, at the operation. -/
namespace Go.Proofs.YtdofjnjiandcbaaDoor
open Go Go.RowKit

/-- The slice v is a row of the call's own (from block base on) with just the strings xs. -/
def Own (w : World) (base : Nat) (v : Value) (xs : List ByteArray) : Prop := w.ownsRow base 9 1 v xs.length (xs.map Value.string)
theorem Own.ss {w : World} {base : Nat} {v : Value} {xs : List ByteArray} (h : Own w base v xs) : SS w v xs := SS_of_row h
theorem Own.below {w w' : World} {base : Nat} {v : Value} {xs : List ByteArray} (h : Own w base v xs) (hb : Below w.heap.size w w') : Own w' base v xs := ownsRow_below h hb
theorem own_nil (w : World) (base : Nat) : Own w base (.slice none 0 0) [] := ⟨rfl, Or.inl ⟨rfl, rfl⟩⟩
theorem own_empty (w : World) : Own (w.alloc (.cells #[] 9)) w.heap.size (.slice (some ⟨w.heap.size, 0, none⟩) 0 0) [] :=
  World.ownsRow_lit w #[] 0 (Nat.le_refl _) (Nat.zero_le _) rfl

theorem wpList_app_str {w0 : World} {ops : Array Oper} {rest : List Oper} {o : Oper} {a : Act} {Q : Exit → Act → World → Prop} (hgd : o.guard = none) (s x : Operand)
    (ho : o.op = .call { callee := .builtin .append, args := #[s, x], argTypes := #[48, 48] })
    (base : Nat) (v : Value) (xs : List ByteArray) (hs : a.eval s = v) (hown : Own w0 base v xs) (y : ByteArray)
    (hx : a.eval x = .slice (some ⟨w0.heap.size, 0, none⟩) 1 1) (hlen : xs.length ≤ 8388608) (hbase : base ≤ w0.heap.size)
    (h : ∀ v' w', Own w' base v' (xs ++ [y]) → Below base w0 w' → wpList Tryd.prog ops Q rest (a.put o.dst v') w') :
    wpList Tryd.prog ops Q (o :: rest) a (w0.alloc (.cells #[.string y] 9)) := by
  obtain ⟨i0, hi, hz0, hz1, hz2⟩ := info_parts infoStr
  have hown1 := hown.below ((Below.refl w0.heap.size w0).alloc (Nat.le_refl _) (.cells #[.string y] 9))
  refine wpList_append_own _ hgd s x 48 ho base 9 i0 (.string ⟨#[]⟩) 1 16 Tryd.underlying48 hi hz0 hz1 hz2 rfl (by decide) v xs.length (xs.map Value.string) hs hown1
    ⟨w0.heap.size, 0, none⟩ 1 1 [.string y] hx rfl (cell_one_new _ _ _) (fun u hu => by simp at hu; subst hu; rfl) (by unfold maxLen; omega) (by omega) (by simp; omega) ?_
  intro v' w' hown' hg _
  refine h v' w' ?_ ?_
  · have e : (xs ++ [y]).map Value.string = xs.map Value.string ++ [Value.string y] := by simp
    have e1 : (xs ++ [y]).length = xs.length + 1 := by simp
    unfold Own
    rw [e, e1]
    exact hown'
  · exact ((Below.refl base w0).alloc hbase _).grown hg (by simp; omega) (fun k hk => (hown1.lt k hk).1)
end Go.Proofs.YtdofjnjiandcbaaDoor
/- Put: Small facts of no program: a digit put in front of the digits that are there. -/
namespace Go.Proofs.YtdofjnjiandcbaaDoor
open Go Go.RowKit

theorem ret_str {a b : List UInt8} (h : a = b) : Ending.returned (.string ⟨a.toArray⟩) = Ending.returned (.string ⟨b.toArray⟩) := by rw [h]
theorem rel_put (m : Nat) (h : ¬ m = 0) {l r : List UInt8} (hl : dec m ++ l = r) :
    Value.string ((⟨#[48 + UInt8.ofNat (m % 10)]⟩ : ByteArray) ++ ⟨l.toArray⟩) = Value.string ⟨(UInt8.ofNat (48 + m % 10) :: l).toArray⟩ ∧ dec (m / 10) ++ (UInt8.ofNat (48 + m % 10) :: l) = r := by
  refine ⟨?_, dec_put (by omega) hl⟩
  rw [str_cons, UInt8.ofNat_add]; rfl

end Go.Proofs.YtdofjnjiandcbaaDoor
/- Fmt: The contract of the model's FormatInt: it returns the decimal numeral and leaves what was there as it was. -/
namespace Go.Proofs.YtdofjnjiandcbaaDoor
open Go Go.RowKit

set_option maxRecDepth 100000 in
set_option maxHeartbeats 400000 in
theorem fmt_pos (N : Nat) (h1 : 1 ≤ N) (h2 : N ≤ 9223372036854775807) (w : World) :
    Calls Tryd.prog 29 #[.int .i64 N] w fun e w' => e = .returned (.string ⟨(Lib.decDigits N).toArray⟩) ∧ Below w.heap.size w w' := by
  have t1 : ((N : Int) == 0) = false := by rw [beq_eq_false_iff_ne]; omega
  have t2 : decide ((N : Int) < 0) = false := by simp
  go_enter Tryd.func29, Tryd.ntmps29
  go_wp2
  go_loopw [0, 4] (fun n out wr => ∃ (m : Nat) (l : List UInt8), m ≤ N ∧ n = .int .i64 m ∧ out = .string ⟨l.toArray⟩ ∧ dec m ++ l = Lib.decDigits N ∧ Below w.heap.size w wr) (fun n _ _ => (intOf n).toNat)
  case atStart => exact ⟨N, [], Nat.le_refl _, rfl, rfl, by rw [dec_pos h1, List.append_nil], Below.refl _ _⟩
  case round =>
    obtain ⟨m, l, hm, rfl, rfl, hl, hb⟩ := hrel
    have hll : l.length ≤ 19 := by
      have e := congrArg List.length hl
      rw [List.length_append] at e
      have := dec_length_le (u := N) (by omega)
      omega
    have HL := Lib.hid hl
    clear hl
    by_cases hz : m = 0
    · subst hz
      go_wp2
      go_ret
      have e := HL.out
      rw [dec_zero, List.nil_append] at e
      exact ⟨ret_str e, hb⟩
    · have t3 : ((m : Int) != 0) = true := by rw [bne_iff_ne]; omega
      have kc := run_string_byte (P := Tryd.prog) wr 45 9 5 (48 + (m : Int) % 10) (by omega) (by omega) Tryd.underlying45 Tryd.underlying5 Tryd.underlying9
      go_wp2
      go_roundw
      case rel => exact ⟨m / 10, _, by omega, by go_num, (rel_put m hz HL.out).1, (rel_put m hz HL.out).2, hb.alloc hb.size _⟩
      case measure => simp [intOf]; omega

theorem rel_put0 (m : Nat) (h : ¬ m = 0) (hd : m % 10 = 0) {l r : List UInt8} (hl : dec m ++ l = r) :
    Value.string ((⟨#[UInt8.ofNat (48 + -((m : Int) % 10)).toNat]⟩ : ByteArray) ++ ⟨l.toArray⟩) = Value.string ⟨(UInt8.ofNat (48 + m % 10) :: l).toArray⟩ ∧ dec (m / 10) ++ (UInt8.ofNat (48 + m % 10) :: l) = r := by
  refine ⟨?_, dec_put (by omega) hl⟩
  rw [str_cons, show (48 + -((m : Int) % 10)).toNat = 48 + m % 10 by omega]
theorem ret_minus {a b : List UInt8} (h : a = b) : Ending.returned (.string ((⟨#[45]⟩ : ByteArray) ++ ⟨a.toArray⟩)) = Ending.returned (.string ⟨(45 :: b).toArray⟩) := by rw [h, str_cons]

set_option maxRecDepth 100000 in
set_option maxHeartbeats 400000 in
theorem fmt_neg (N : Nat) (h1 : 1 ≤ N) (h2 : N ≤ 9223372036854775808) (w : World) :
    Calls Tryd.prog 29 #[.int .i64 (-(N : Int))] w fun e w' => e = .returned (.string ⟨(45 :: Lib.decDigits N).toArray⟩) ∧ Below w.heap.size w w' := by
  have t1 : ((-(N : Int)) == 0) = false := by rw [beq_eq_false_iff_ne]; omega
  have t2 : decide (0 < N) = true := by simp; omega
  go_enter Tryd.func29, Tryd.ntmps29
  go_wp2
  go_loopw [0, 4] (fun n out wr => ∃ (m : Nat) (l : List UInt8), m ≤ N ∧ n = .int .i64 (-(m : Int)) ∧ out = .string ⟨l.toArray⟩ ∧ dec m ++ l = Lib.decDigits N ∧ Below w.heap.size w wr) (fun n _ _ => (-(intOf n)).toNat)
  case atStart => exact ⟨N, [], Nat.le_refl _, rfl, rfl, by rw [dec_pos h1, List.append_nil], Below.refl _ _⟩
  case round =>
    obtain ⟨m, l, hm, rfl, rfl, hl, hb⟩ := hrel
    have hll : l.length ≤ 19 := by
      have e := congrArg List.length hl
      rw [List.length_append] at e
      have := dec_length_le (u := N) (by omega)
      omega
    have HL := Lib.hid hl
    clear hl
    by_cases hz : m = 0
    · subst hz
      go_wp2
      go_ret
      have e := HL.out
      rw [dec_zero, List.nil_append] at e
      exact ⟨ret_minus e, hb⟩
    · have t3 : ((-(m : Int)) != 0) = true := by rw [bne_iff_ne]; omega
      by_cases hd : m % 10 = 0
      · have kc := run_string_byte (P := Tryd.prog) wr 45 9 5 (48 + -((m : Int) % 10)) (by omega) (by omega) Tryd.underlying45 Tryd.underlying5 Tryd.underlying9
        go_wp2
        go_roundw
        case rel => exact ⟨m / 10, _, by omega, by go_num, (rel_put0 m hz hd HL.out).1, (rel_put0 m hz hd HL.out).2, hb.alloc hb.size _⟩
        case measure => simp [intOf]; omega
      · have kc := run_string_byte (P := Tryd.prog) wr 45 9 5 (48 + (m : Int) % 10) (by omega) (by omega) Tryd.underlying45 Tryd.underlying5 Tryd.underlying9
        go_wp2
        go_roundw
        case rel => exact ⟨m / 10, _, by omega, by go_num, (rel_put m hz HL.out).1, (rel_put m hz HL.out).2, hb.alloc hb.size _⟩
        case measure => simp [intOf]; omega

set_option maxHeartbeats 400000 in
theorem fmt_zero (w : World) :
    Calls Tryd.prog 29 #[.int .i64 0] w fun e w' => e = .returned (.string ⟨(Lib.decDigits 0).toArray⟩) ∧ Below w.heap.size w w' := by
  have e : Lib.decDigits 0 = [48] := by rw [Lib.decDigits]; rfl
  have E := Lib.hid e
  clear e
  go_enter Tryd.func29, Tryd.ntmps29
  go_wp2
  go_ret
  exact ⟨by rw [E.out]; rfl, Below.refl _ _⟩

/-- THE MODEL's FormatInt, AT EVERY int. -/
theorem fmt_any (n : Int) (h0 : -9223372036854775808 ≤ n) (h1 : n ≤ 9223372036854775807) (w : World) :
    Calls Tryd.prog 29 #[.int .i64 n] w fun e w' => e = .returned (.string ⟨(Lib.itoa n).toArray⟩) ∧ Below w.heap.size w w' := by
  unfold Lib.itoa
  by_cases hn : n < 0
  · rw [if_pos hn]
    have h := fmt_neg n.natAbs (by omega) (by omega) w
    rw [show (-(n.natAbs : Int)) = n by omega] at h
    exact h
  · rw [if_neg hn]
    by_cases hz : n = 0
    · subst hz; exact fmt_zero w
    · have h := fmt_pos n.toNat (by omega) (by omega) w
      rw [show ((n.toNat : Nat) : Int) = n by omega] at h
      exact h
#print axioms fmt_any
end Go.Proofs.YtdofjnjiandcbaaDoor
/- TmLongS: The contracts of the model's l6Long: the texts of seven kinds of terms (gentmlongs.py writes this text). -/
namespace Go.Proofs.YtdofjnjiandcbaaDoor
open Go Go.RowKit

theorem tyText {C : Nat → Prop} {ty : Ty} {tp : Option Addr} {tc : Nat} {w : World} (h : TS w C ty.args (.slice tp ty.args.length tc)) (hv : ty.valid = true) (W : World) (hW : Below w.heap.size w W) :
    Calls Tryd.prog 48 #[.agg #[.int .i64 ty.kind, .slice tp ty.args.length tc]] W (StrRet ty.text W) := by
  obtain ⟨h1, _, h3⟩ := (valid_iff ty).1 hv
  have hn : nodesS ty.args ≤ 2097152 := by rw [ty.nodes_eq] at h1; omega
  have := spText_any h W ty.kind (.of_below hW) hn (by rw [← ty.eta]; exact h3)
  rwa [← ty.eta] at this
theorem valid_len {ty : Ty} (hv : ty.valid = true) : ty.text.length ≤ 90 := by
  obtain ⟨h1, _, h3⟩ := (valid_iff ty).1 hv
  have := text_le _ ty (Nat.le_refl _) h3
  omega
abbrev tb (l : List UInt8) : ByteArray := ⟨l.toArray⟩
theorem SS.one {w : World} {v : Value} {x : ByteArray} (h : SS w v [x]) : ∃ b i d, v = .slice (some ⟨b, i, none⟩) 1 d ∧ b < w.heap.size ∧ w.cell? ⟨b, i, none⟩ = some (.string x) := by
  rcases h with ⟨h, _⟩ | ⟨_, b, i, d, rfl, _, hb, hc⟩
  · cases h
  · exact ⟨b, i, d, rfl, hb, hc 0 x rfl⟩
theorem SS.two {w : World} {v : Value} {x y : ByteArray} (h : SS w v [x, y]) : ∃ b i d, v = .slice (some ⟨b, i, none⟩) 2 d ∧ b < w.heap.size ∧ w.cell? ⟨b, i, none⟩ = some (.string x) ∧ w.cell? ⟨b, i + 1, none⟩ = some (.string y) := by
  rcases h with ⟨h, _⟩ | ⟨_, b, i, d, rfl, _, hb, hc⟩
  · cases h
  · exact ⟨b, i, d, rfl, hb, hc 0 x rfl, hc 1 y rfl⟩
theorem join_call {xs : List ByteArray} {v : Value} {w : World} {J : List UInt8} (h : SS w v xs) (hJ : Lib.join (bs xs) [32] = J) (hl : J.length ≤ 140737488355328) (hn : xs.length ≤ 3) :
    Calls Tryd.prog 47 #[v, .string ⟨#[32]⟩] w (StrRet J w) := by
  have := joinS_any xs v ⟨#[32]⟩ w (by omega) (by rw [show (⟨#[32]⟩ : ByteArray).data.toList = [32] from rfl, hJ]; exact hl) h
  rw [show (⟨#[32]⟩ : ByteArray).data.toList = [32] from rfl, hJ] at this
  exact this
theorem kb {W w1 : World} {p : Addr} {v : Value} (hb : Below W.heap.size W w1) (h : W.cell? p = some v) : w1.cell? p = some v := (hb.cell (World.block_lt_of_cell? W _ h)).trans h
theorem kb1 {w W w1 : World} {p0 : Addr} {v0 : Value} (hb : Below W.heap.size W w1) (h : Below w.heap.size w W ∧ W.cell? p0 = some v0) : Below w.heap.size w w1 ∧ w1.cell? p0 = some v0 := by
  obtain ⟨h, h0⟩ := h
  exact ⟨h.trans (hb.mono h.size), kb hb h0⟩
theorem kb3 {w W w1 : World} {p0 p1 p2 : Addr} {v0 v1 v2 : Value} (hb : Below W.heap.size W w1) (h : Below w.heap.size w W ∧ W.cell? p0 = some v0 ∧ W.cell? p1 = some v1 ∧ W.cell? p2 = some v2) : Below w.heap.size w w1 ∧ w1.cell? p0 = some v0 ∧ w1.cell? p1 = some v1 ∧ w1.cell? p2 = some v2 := by
  obtain ⟨h, h0, h1, h2⟩ := h
  exact ⟨h.trans (hb.mono h.size), kb hb h0, kb hb h1, kb hb h2⟩
theorem kb4 {w W w1 : World} {p0 p1 p2 p3 : Addr} {v0 v1 v2 v3 : Value} (hb : Below W.heap.size W w1) (h : Below w.heap.size w W ∧ W.cell? p0 = some v0 ∧ W.cell? p1 = some v1 ∧ W.cell? p2 = some v2 ∧ W.cell? p3 = some v3) : Below w.heap.size w w1 ∧ w1.cell? p0 = some v0 ∧ w1.cell? p1 = some v1 ∧ w1.cell? p2 = some v2 ∧ w1.cell? p3 = some v3 := by
  obtain ⟨h, h0, h1, h2, h3⟩ := h
  exact ⟨h.trans (hb.mono h.size), kb hb h0, kb hb h1, kb hb h2, kb hb h3⟩
theorem kb6 {w W w1 : World} {p0 p1 p2 p3 p4 p5 : Addr} {v0 v1 v2 v3 v4 v5 : Value} (hb : Below W.heap.size W w1) (h : Below w.heap.size w W ∧ W.cell? p0 = some v0 ∧ W.cell? p1 = some v1 ∧ W.cell? p2 = some v2 ∧ W.cell? p3 = some v3 ∧ W.cell? p4 = some v4 ∧ W.cell? p5 = some v5) : Below w.heap.size w w1 ∧ w1.cell? p0 = some v0 ∧ w1.cell? p1 = some v1 ∧ w1.cell? p2 = some v2 ∧ w1.cell? p3 = some v3 ∧ w1.cell? p4 = some v4 ∧ w1.cell? p5 = some v5 := by
  obtain ⟨h, h0, h1, h2, h3, h4, h5⟩ := h
  exact ⟨h.trans (hb.mono h.size), kb hb h0, kb hb h1, kb hb h2, kb hb h3, kb hb h4, kb hb h5⟩
theorem kb7 {w W w1 : World} {p0 p1 p2 p3 p4 p5 p6 : Addr} {v0 v1 v2 v3 v4 v5 v6 : Value} (hb : Below W.heap.size W w1) (h : Below w.heap.size w W ∧ W.cell? p0 = some v0 ∧ W.cell? p1 = some v1 ∧ W.cell? p2 = some v2 ∧ W.cell? p3 = some v3 ∧ W.cell? p4 = some v4 ∧ W.cell? p5 = some v5 ∧ W.cell? p6 = some v6) : Below w.heap.size w w1 ∧ w1.cell? p0 = some v0 ∧ w1.cell? p1 = some v1 ∧ w1.cell? p2 = some v2 ∧ w1.cell? p3 = some v3 ∧ w1.cell? p4 = some v4 ∧ w1.cell? p5 = some v5 ∧ w1.cell? p6 = some v6 := by
  obtain ⟨h, h0, h1, h2, h3, h4, h5, h6⟩ := h
  exact ⟨h.trans (hb.mono h.size), kb hb h0, kb hb h1, kb hb h2, kb hb h3, kb hb h4, kb hb h5, kb hb h6⟩
theorem cat_run (x : List UInt8) : (⟨#[40, 114, 117, 110, 32]⟩ : ByteArray) ++ ⟨(x).toArray⟩ ++ (⟨#[41]⟩ : ByteArray) = ⟨(40 :: 114 :: 117 :: 110 :: 32 :: (x ++ [41])).toArray⟩ := by
  apply ByteArray.ext
  simp
set_option maxRecDepth 100000 in
set_option maxHeartbeats 2000000 in
theorem long_run (x : List UInt8) (tp : Option Addr) (tc : Nat) (rp : Option Addr) (rc : Nat) (p : Option Addr) (c : Nat) (v : Value) (w : World) (hS : SS w v [tb x]) (hx : x.length ≤ 209715200) :
    Calls Tryd.prog 30 #[.agg #[.int .i64 12, .string E0, .string E0, .int .i64 0, .int .i64 0, .slice tp 0 tc, .int .i64 0, .slice rp 0 rc, .slice p 1 c], v] w (StrRet (40 :: 114 :: 117 :: 110 :: 32 :: (x ++ [41])) w) := by
  have HB := Lib.hid (al_below w (.cells #[.int .i64 12, .string E0, .string E0, .int .i64 0, .int .i64 0, .slice tp 0 tc, .int .i64 0, .slice rp 0 rc, .slice p 1 c] 35))
  obtain ⟨b, i, d, rfl, hb, hc⟩ := hS.one
  have hc1 := kb HB.out hc
  have q0 : ¬ 9223372036854775807 < 5 + x.length := by omega
  have q1 : ¬ 9223372036854775807 < 5 + x.length + 1 := by omega
  clear hc hb hx
  go_enter Tryd.func30, Tryd.ntmps30
  go_wp2_with fail
  go_ret
  exact ⟨by rw [cat_run]; rfl, HB.out⟩
theorem cat_lift (x : List UInt8) : (⟨#[40, 108, 105, 102, 116, 32]⟩ : ByteArray) ++ ⟨(x).toArray⟩ ++ (⟨#[41]⟩ : ByteArray) = ⟨(40 :: 108 :: 105 :: 102 :: 116 :: 32 :: (x ++ [41])).toArray⟩ := by
  apply ByteArray.ext
  simp
set_option maxRecDepth 100000 in
set_option maxHeartbeats 2000000 in
theorem long_lift (x : List UInt8) (tp : Option Addr) (tc : Nat) (rp : Option Addr) (rc : Nat) (p : Option Addr) (c : Nat) (v : Value) (w : World) (hS : SS w v [tb x]) (hx : x.length ≤ 209715200) :
    Calls Tryd.prog 30 #[.agg #[.int .i64 13, .string E0, .string E0, .int .i64 0, .int .i64 0, .slice tp 0 tc, .int .i64 0, .slice rp 0 rc, .slice p 1 c], v] w (StrRet (40 :: 108 :: 105 :: 102 :: 116 :: 32 :: (x ++ [41])) w) := by
  have HB := Lib.hid (al_below w (.cells #[.int .i64 13, .string E0, .string E0, .int .i64 0, .int .i64 0, .slice tp 0 tc, .int .i64 0, .slice rp 0 rc, .slice p 1 c] 35))
  obtain ⟨b, i, d, rfl, hb, hc⟩ := hS.one
  have hc1 := kb HB.out hc
  have q0 : ¬ 9223372036854775807 < 6 + x.length := by omega
  have q1 : ¬ 9223372036854775807 < 6 + x.length + 1 := by omega
  clear hc hb hx
  go_enter Tryd.func30, Tryd.ntmps30
  go_wp2_with fail
  go_ret
  exact ⟨by rw [cat_lift]; rfl, HB.out⟩
theorem cat_cond (J : List UInt8) : (⟨#[40, 105, 102, 32]⟩ : ByteArray) ++ ⟨(J).toArray⟩ ++ (⟨#[41]⟩ : ByteArray) = ⟨(40 :: 105 :: 102 :: 32 :: (J ++ [41])).toArray⟩ := by
  apply ByteArray.ext
  simp
set_option maxRecDepth 100000 in
set_option maxHeartbeats 2000000 in
theorem long_cond (x y z J : List UInt8) (tp : Option Addr) (tc : Nat) (rp : Option Addr) (rc : Nat) (p : Option Addr) (c : Nat) (v : Value) (w : World) (hS : SS w v [tb x, tb y, tb z]) (hJ : J = (x ++ 32 :: (y ++ 32 :: z))) (hx : J.length ≤ 209715200) :
    Calls Tryd.prog 30 #[.agg #[.int .i64 5, .string E0, .string E0, .int .i64 0, .int .i64 0, .slice tp 0 tc, .int .i64 0, .slice rp 0 rc, .slice p 3 c], v] w (StrRet (40 :: 105 :: 102 :: 32 :: (J ++ [41])) w) := by
  have HB := Lib.hid (al_below w (.cells #[.int .i64 5, .string E0, .string E0, .int .i64 0, .int .i64 0, .slice tp 0 tc, .int .i64 0, .slice rp 0 rc, .slice p 3 c] 35))
  have HJ := Lib.hid (join_call (J := J) (hS.below HB.out) (by rw [hJ]; exact join3 x y z) (by omega) (by simp))
  have q0 : ¬ 9223372036854775807 < 4 + J.length := by omega
  have q1 : ¬ 9223372036854775807 < 4 + J.length + 1 := by omega
  clear hJ hx hS
  go_enter Tryd.func30, Tryd.ntmps30
  go_wp2_with fail
  refine HJ.out.mono ?_
  rintro e w1 ⟨rfl, hb1⟩
  have HB1 := Lib.hid (HB.out.trans (hb1.mono HB.out.size))
  clear hb1
  go_wp2_with fail
  go_ret
  exact ⟨by rw [cat_cond]; rfl, HB1.out⟩
theorem cat_app (J : List UInt8) : (⟨#[40]⟩ : ByteArray) ++ ⟨(J).toArray⟩ ++ (⟨#[41]⟩ : ByteArray) = ⟨(40 :: (J ++ [41])).toArray⟩ := by
  apply ByteArray.ext
  simp
set_option maxRecDepth 100000 in
set_option maxHeartbeats 2000000 in
theorem long_app (x y J : List UInt8) (tp : Option Addr) (tc : Nat) (rp : Option Addr) (rc : Nat) (p : Option Addr) (c : Nat) (v : Value) (w : World) (hS : SS w v [tb x, tb y]) (hJ : J = (x ++ 32 :: y)) (hx : J.length ≤ 209715200) :
    Calls Tryd.prog 30 #[.agg #[.int .i64 7, .string E0, .string E0, .int .i64 0, .int .i64 0, .slice tp 0 tc, .int .i64 0, .slice rp 0 rc, .slice p 2 c], v] w (StrRet (40 :: (J ++ [41])) w) := by
  have HB := Lib.hid (al_below w (.cells #[.int .i64 7, .string E0, .string E0, .int .i64 0, .int .i64 0, .slice tp 0 tc, .int .i64 0, .slice rp 0 rc, .slice p 2 c] 35))
  have HJ := Lib.hid (join_call (J := J) (hS.below HB.out) (by rw [hJ]; exact join2 x y) (by omega) (by simp))
  have q0 : ¬ 9223372036854775807 < 1 + J.length := by omega
  have q1 : ¬ 9223372036854775807 < 1 + J.length + 1 := by omega
  clear hJ hx hS
  go_enter Tryd.func30, Tryd.ntmps30
  go_wp2_with fail
  refine HJ.out.mono ?_
  rintro e w1 ⟨rfl, hb1⟩
  have HB1 := Lib.hid (HB.out.trans (hb1.mono HB.out.size))
  clear hb1
  go_wp2_with fail
  go_ret
  exact ⟨by rw [cat_app]; rfl, HB1.out⟩
theorem cat_bind (a : ByteArray) (J : List UInt8) : (⟨#[40, 108, 101, 116, 32]⟩ : ByteArray) ++ a ++ (⟨#[61]⟩ : ByteArray) ++ ⟨(J).toArray⟩ ++ (⟨#[41]⟩ : ByteArray) = ⟨(40 :: 108 :: 101 :: 116 :: 32 :: (a.data.toList ++ 61 :: (J ++ [41]))).toArray⟩ := by
  apply ByteArray.ext
  simp
set_option maxRecDepth 100000 in
set_option maxHeartbeats 2000000 in
theorem long_bind (a : ByteArray) (x y J : List UInt8) (tp : Option Addr) (tc : Nat) (rp : Option Addr) (rc : Nat) (p : Option Addr) (c : Nat) (v : Value) (w : World) (hS : SS w v [tb x, tb y]) (hJ : J = (x ++ 32 :: y)) (hx : J.length ≤ 209715200) (ha : a.size ≤ 2097152) :
    Calls Tryd.prog 30 #[.agg #[.int .i64 8, .string a, .string E0, .int .i64 0, .int .i64 0, .slice tp 0 tc, .int .i64 0, .slice rp 0 rc, .slice p 2 c], v] w (StrRet (40 :: 108 :: 101 :: 116 :: 32 :: (a.data.toList ++ 61 :: (J ++ [41]))) w) := by
  have HB := Lib.hid (al_below w (.cells #[.int .i64 8, .string a, .string E0, .int .i64 0, .int .i64 0, .slice tp 0 tc, .int .i64 0, .slice rp 0 rc, .slice p 2 c] 35))
  have HJ := Lib.hid (fun (W : World) (hW : Below w.heap.size w W) => join_call (J := J) (hS.below hW) (by rw [hJ]; exact join2 x y) (by omega) (by simp))
  have q0 : ¬ 9223372036854775807 < 5 + a.size := by omega
  have q1 : ¬ 9223372036854775807 < 5 + a.size + 1 := by omega
  have q2 : ¬ 9223372036854775807 < 5 + a.size + 1 + J.length := by omega
  have q3 : ¬ 9223372036854775807 < 5 + a.size + 1 + J.length + 1 := by omega
  clear hJ hx hS ha
  go_enter Tryd.func30, Tryd.ntmps30
  go_wp2_with fail
  have hn1 : (w.alloc (.cells #[.int .i64 8, .string a, .string E0, .int .i64 0, .int .i64 0, .slice tp 0 tc, .int .i64 0, .slice rp 0 rc, .slice p 2 c] 35)).cell? ⟨w.heap.size, 1, none⟩ = some (.string a) := cell_of_blk (blk_new w _) 1
  go_region_held3 (fun w' => Below w.heap.size w w' ∧ w'.cell? ⟨w.heap.size, 1, none⟩ = some (.string a))
    (first
      | (go_keep; done)
      | exact ⟨HB.out.drew, hn1⟩
      | with_reducible exact kb1 hb1 (by assumption)
      | fail)
    (first
      | (go_at_call 47; refine (HJ.out _ (And.left (by assumption))).mono ?_; rintro e w1 ⟨rfl, hb1⟩)
      | fail)
  rename_i hH
  have HBL := Lib.hid hH.1
  clear hH
  go_wp2_with fail
  go_ret
  exact ⟨by rw [cat_bind]; rfl, HBL.out⟩
theorem cat_lam (a : ByteArray) (ty : Ty) (x : List UInt8) : (⟨#[40, 92]⟩ : ByteArray) ++ a ++ (⟨#[58]⟩ : ByteArray) ++ ⟨(ty.text).toArray⟩ ++ (⟨#[46]⟩ : ByteArray) ++ ⟨(x).toArray⟩ ++ (⟨#[41]⟩ : ByteArray) = ⟨(40 :: 92 :: (a.data.toList ++ 58 :: (ty.text ++ 46 :: (x ++ [41])))).toArray⟩ := by
  apply ByteArray.ext
  simp
set_option maxRecDepth 100000 in
set_option maxHeartbeats 2000000 in
theorem long_lam {C : Nat → Prop} (a : ByteArray) (ty : Ty) (x : List UInt8) (tp : Option Addr) (tc : Nat) (rp : Option Addr) (rc : Nat) (p : Option Addr) (c : Nat) (v : Value) (w : World) (hS : SS w v [tb x]) (hv : ty.valid = true) (hT : TS w C ty.args (.slice tp ty.args.length tc)) (hx : x.length ≤ 209715200) (ha : a.size ≤ 2097152) :
    Calls Tryd.prog 30 #[.agg #[.int .i64 6, .string a, .string E0, .int .i64 0, .int .i64 ty.kind, .slice tp ty.args.length tc, .int .i64 0, .slice rp 0 rc, .slice p 1 c], v] w (StrRet (40 :: 92 :: (a.data.toList ++ 58 :: (ty.text ++ 46 :: (x ++ [41])))) w) := by
  have HB := Lib.hid (al_below w (.cells #[.int .i64 6, .string a, .string E0, .int .i64 0, .int .i64 ty.kind, .slice tp ty.args.length tc, .int .i64 0, .slice rp 0 rc, .slice p 1 c] 35))
  have HT := Lib.hid (tyText hT hv)
  have ht := valid_len hv
  obtain ⟨b, i, d, rfl, hb, hc⟩ := hS.one
  have hc1 := kb HB.out hc
  have q0 : ¬ 9223372036854775807 < 2 + a.size := by omega
  have q1 : ¬ 9223372036854775807 < 2 + a.size + 1 := by omega
  have q2 : ¬ 9223372036854775807 < 2 + a.size + 1 + ty.text.length := by omega
  have q3 : ¬ 9223372036854775807 < 2 + a.size + 1 + ty.text.length + 1 := by omega
  have q4 : ¬ 9223372036854775807 < 2 + a.size + 1 + ty.text.length + 1 + x.length := by omega
  have q5 : ¬ 9223372036854775807 < 2 + a.size + 1 + ty.text.length + 1 + x.length + 1 := by omega
  have g1 : (w.alloc (.cells #[.int .i64 6, .string a, .string E0, .int .i64 0, .int .i64 ty.kind, .slice tp ty.args.length tc, .int .i64 0, .slice rp 0 rc, .slice p 1 c] 35)).cell? ⟨w.heap.size, 1, none⟩ = some (.string a) := cell_of_blk (blk_new w _) 1
  have g4 : (w.alloc (.cells #[.int .i64 6, .string a, .string E0, .int .i64 0, .int .i64 ty.kind, .slice tp ty.args.length tc, .int .i64 0, .slice rp 0 rc, .slice p 1 c] 35)).cell? ⟨w.heap.size, 4, none⟩ = some (.int .i64 ty.kind) := cell_of_blk (blk_new w _) 4
  have g5 : (w.alloc (.cells #[.int .i64 6, .string a, .string E0, .int .i64 0, .int .i64 ty.kind, .slice tp ty.args.length tc, .int .i64 0, .slice rp 0 rc, .slice p 1 c] 35)).cell? ⟨w.heap.size, 5, none⟩ = some (.slice tp ty.args.length tc) := cell_of_blk (blk_new w _) 5
  clear hS hT hv hx ha ht hc hb
  go_enter Tryd.func30, Tryd.ntmps30
  go_wp2_with fail
  go_region_held3 (fun w' => Below w.heap.size w w' ∧ w'.cell? ⟨w.heap.size, 1, none⟩ = some (.string a) ∧ w'.cell? ⟨w.heap.size, 4, none⟩ = some (.int .i64 ty.kind) ∧ w'.cell? ⟨w.heap.size, 5, none⟩ = some (.slice tp ty.args.length tc) ∧ w'.cell? ⟨b, i, none⟩ = some (.string (tb x)))
    (first
      | (go_keep; done)
      | exact ⟨HB.out.drew, g1, g4, g5, hc1⟩
      | with_reducible exact kb4 hb1 (by assumption)
      | fail)
    (first
      | (go_at_call 48; refine (HT.out _ (And.left (by assumption))).mono ?_; rintro e w1 ⟨rfl, hb1⟩)
      | fail)
  rename_i hH
  have HBL := Lib.hid hH.1
  clear hH
  go_wp2_with fail
  go_ret
  exact ⟨by rw [cat_lam]; rfl, HBL.out⟩
theorem cat_fix (a a2 : ByteArray) (ty res : Ty) (x : List UInt8) : (⟨#[40, 114, 101, 99, 32]⟩ : ByteArray) ++ a ++ (⟨#[32]⟩ : ByteArray) ++ a2 ++ (⟨#[58]⟩ : ByteArray) ++ ⟨(ty.text).toArray⟩ ++ (⟨#[62]⟩ : ByteArray) ++ ⟨(res.text).toArray⟩ ++ (⟨#[46]⟩ : ByteArray) ++ ⟨(x).toArray⟩ ++ (⟨#[41]⟩ : ByteArray) = ⟨(40 :: 114 :: 101 :: 99 :: 32 :: (a.data.toList ++ 32 :: (a2.data.toList ++ 58 :: (ty.text ++ 62 :: (res.text ++ 46 :: (x ++ [41])))))).toArray⟩ := by
  apply ByteArray.ext
  simp
set_option maxRecDepth 100000 in
set_option maxHeartbeats 4000000 in
theorem long_fix {C : Nat → Prop} (a a2 : ByteArray) (ty res : Ty) (x : List UInt8) (tp : Option Addr) (tc : Nat) (rp : Option Addr) (rc : Nat) (p : Option Addr) (c : Nat) (v : Value) (w : World) (hS : SS w v [tb x]) (hv : ty.valid = true) (hv2 : res.valid = true) (hT : TS w C ty.args (.slice tp ty.args.length tc)) (hR : TS w C res.args (.slice rp res.args.length rc)) (hx : x.length ≤ 209715200) (ha : a.size ≤ 2097152) (ha2 : a2.size ≤ 2097152) :
    Calls Tryd.prog 30 #[.agg #[.int .i64 9, .string a, .string a2, .int .i64 0, .int .i64 ty.kind, .slice tp ty.args.length tc, .int .i64 res.kind, .slice rp res.args.length rc, .slice p 1 c], v] w (StrRet (40 :: 114 :: 101 :: 99 :: 32 :: (a.data.toList ++ 32 :: (a2.data.toList ++ 58 :: (ty.text ++ 62 :: (res.text ++ 46 :: (x ++ [41])))))) w) := by
  have HB := Lib.hid (al_below w (.cells #[.int .i64 9, .string a, .string a2, .int .i64 0, .int .i64 ty.kind, .slice tp ty.args.length tc, .int .i64 res.kind, .slice rp res.args.length rc, .slice p 1 c] 35))
  have HT := Lib.hid (tyText hT hv)
  have HR := Lib.hid (tyText hR hv2)
  have ht := valid_len hv
  have ht2 := valid_len hv2
  obtain ⟨b, i, d, rfl, hb, hc⟩ := hS.one
  have hc1 := kb HB.out hc
  have q0 : ¬ 9223372036854775807 < 5 + a.size := by omega
  have q1 : ¬ 9223372036854775807 < 5 + a.size + 1 := by omega
  have q2 : ¬ 9223372036854775807 < 5 + a.size + 1 + a2.size := by omega
  have q3 : ¬ 9223372036854775807 < 5 + a.size + 1 + a2.size + 1 := by omega
  have q4 : ¬ 9223372036854775807 < 5 + a.size + 1 + a2.size + 1 + ty.text.length := by omega
  have q5 : ¬ 9223372036854775807 < 5 + a.size + 1 + a2.size + 1 + ty.text.length + 1 := by omega
  have q6 : ¬ 9223372036854775807 < 5 + a.size + 1 + a2.size + 1 + ty.text.length + 1 + res.text.length := by omega
  have q7 : ¬ 9223372036854775807 < 5 + a.size + 1 + a2.size + 1 + ty.text.length + 1 + res.text.length + 1 := by omega
  have q8 : ¬ 9223372036854775807 < 5 + a.size + 1 + a2.size + 1 + ty.text.length + 1 + res.text.length + 1 + x.length := by omega
  have q9 : ¬ 9223372036854775807 < 5 + a.size + 1 + a2.size + 1 + ty.text.length + 1 + res.text.length + 1 + x.length + 1 := by omega
  have g1 : (w.alloc (.cells #[.int .i64 9, .string a, .string a2, .int .i64 0, .int .i64 ty.kind, .slice tp ty.args.length tc, .int .i64 res.kind, .slice rp res.args.length rc, .slice p 1 c] 35)).cell? ⟨w.heap.size, 1, none⟩ = some (.string a) := cell_of_blk (blk_new w _) 1
  have g2 : (w.alloc (.cells #[.int .i64 9, .string a, .string a2, .int .i64 0, .int .i64 ty.kind, .slice tp ty.args.length tc, .int .i64 res.kind, .slice rp res.args.length rc, .slice p 1 c] 35)).cell? ⟨w.heap.size, 2, none⟩ = some (.string a2) := cell_of_blk (blk_new w _) 2
  have g4 : (w.alloc (.cells #[.int .i64 9, .string a, .string a2, .int .i64 0, .int .i64 ty.kind, .slice tp ty.args.length tc, .int .i64 res.kind, .slice rp res.args.length rc, .slice p 1 c] 35)).cell? ⟨w.heap.size, 4, none⟩ = some (.int .i64 ty.kind) := cell_of_blk (blk_new w _) 4
  have g5 : (w.alloc (.cells #[.int .i64 9, .string a, .string a2, .int .i64 0, .int .i64 ty.kind, .slice tp ty.args.length tc, .int .i64 res.kind, .slice rp res.args.length rc, .slice p 1 c] 35)).cell? ⟨w.heap.size, 5, none⟩ = some (.slice tp ty.args.length tc) := cell_of_blk (blk_new w _) 5
  have g6 : (w.alloc (.cells #[.int .i64 9, .string a, .string a2, .int .i64 0, .int .i64 ty.kind, .slice tp ty.args.length tc, .int .i64 res.kind, .slice rp res.args.length rc, .slice p 1 c] 35)).cell? ⟨w.heap.size, 6, none⟩ = some (.int .i64 res.kind) := cell_of_blk (blk_new w _) 6
  have g7 : (w.alloc (.cells #[.int .i64 9, .string a, .string a2, .int .i64 0, .int .i64 ty.kind, .slice tp ty.args.length tc, .int .i64 res.kind, .slice rp res.args.length rc, .slice p 1 c] 35)).cell? ⟨w.heap.size, 7, none⟩ = some (.slice rp res.args.length rc) := cell_of_blk (blk_new w _) 7
  clear hS hT hR hv hv2 hx ha ha2 ht ht2 hc hb
  go_enter Tryd.func30, Tryd.ntmps30
  go_wp2_with fail
  go_region_held3 (fun w' => Below w.heap.size w w' ∧ w'.cell? ⟨w.heap.size, 1, none⟩ = some (.string a) ∧ w'.cell? ⟨w.heap.size, 2, none⟩ = some (.string a2) ∧ w'.cell? ⟨w.heap.size, 4, none⟩ = some (.int .i64 ty.kind) ∧ w'.cell? ⟨w.heap.size, 5, none⟩ = some (.slice tp ty.args.length tc) ∧ w'.cell? ⟨w.heap.size, 6, none⟩ = some (.int .i64 res.kind) ∧ w'.cell? ⟨w.heap.size, 7, none⟩ = some (.slice rp res.args.length rc) ∧ w'.cell? ⟨b, i, none⟩ = some (.string (tb x)))
    (first
      | (go_keep; done)
      | exact ⟨HB.out.drew, g1, g2, g4, g5, g6, g7, hc1⟩
      | with_reducible exact kb7 hb2 (by assumption)
      | with_reducible exact kb7 hb1 (by assumption)
      | fail)
    (first
      | (go_at_call_of 48 (Value.agg #[.int .i64 ty.kind, .slice tp ty.args.length tc]); refine (HT.out _ (And.left (by assumption))).mono ?_; rintro e w1 ⟨rfl, hb1⟩)
      | (go_at_call_of 48 (Value.agg #[.int .i64 res.kind, .slice rp res.args.length rc]); refine (HR.out _ (And.left (by assumption))).mono ?_; rintro e w2 ⟨rfl, hb2⟩)
      | fail)
  rename_i hH
  have HBL := Lib.hid hH.1
  clear hH
  go_wp2_with fail
  go_ret
  exact ⟨by rw [cat_fix]; rfl, HBL.out⟩
end Go.Proofs.YtdofjnjiandcbaaDoor
/- TmAny: The model's SizeOf, DepthOf, IsTerm at any term in memory. -/
namespace Go.Proofs.YtdofjnjiandcbaaDoor
open Go Go.RowKit

variable {C : Nat → Prop} {t : Tm} {v : Value} {w : World}
theorem depthT_at (h : TM w C t v) (hn : t.wt ≤ 2097152) : Calls Tryd.prog 40 #[v] w (IntRet (fun r => r = ((t.depth : Nat) : Int)) w) := by
  obtain ⟨tp, tc, rp, rc, p, c, rfl, hT⟩ := h
  exact depthM_any _ w (Nat.le_refl _) hT hn
theorem isT_at (h : TM w C t v) (hn : t.wt ≤ 2097152) : Calls Tryd.prog 14 #[v] w (Tells t.IsT w) := by
  obtain ⟨tp, tc, rp, rc, p, c, rfl, hT⟩ := h
  exact isTM_any _ w (Nat.le_refl _) hT hn
end Go.Proofs.YtdofjnjiandcbaaDoor
/- TxS: The contracts of the model's l6Text, TermText and FormatTerm (every shape of a term in its arm). -/
namespace Go.Proofs.YtdofjnjiandcbaaDoor
open Go Go.RowKit

theorem cat_t1 (x : List UInt8) : (⟨#[40, 33]⟩ : ByteArray) ++ ⟨x.toArray⟩ ++ (⟨#[41]⟩ : ByteArray) = ⟨(40 :: 33 :: (x ++ [41])).toArray⟩ := by
  apply ByteArray.ext
  simp
theorem cat_t2 (a : ByteArray) (x y : List UInt8) : (⟨#[40]⟩ : ByteArray) ++ ⟨x.toArray⟩ ++ a ++ ⟨y.toArray⟩ ++ (⟨#[41]⟩ : ByteArray) = ⟨(40 :: (x ++ (a.data.toList ++ (y ++ [41])))).toArray⟩ := by
  apply ByteArray.ext
  simp
theorem cat_t10 (x : List UInt8) : (⟨#[60]⟩ : ByteArray) ++ ⟨x.toArray⟩ ++ (⟨#[62]⟩ : ByteArray) = ⟨(60 :: (x ++ [62])).toArray⟩ := by
  apply ByteArray.ext
  simp
theorem cat_t11 (x : List UInt8) : (⟨#[126]⟩ : ByteArray) ++ ⟨x.toArray⟩ = ⟨(126 :: x).toArray⟩ := by
  apply ByteArray.ext
  simp
def tbs (ts : List Tm) : List ByteArray := ts.map fun t => tb t.text
theorem tbs_len (ts : List Tm) : (tbs ts).length = ts.length := by simp [tbs]
theorem tbs_take (ts : List Tm) (k : Nat) (h : k < ts.length) : tbs (ts.take (k + 1)) = tbs (ts.take k) ++ [tb ts[k].text] := by
  unfold tbs
  rw [tm_take_next h, List.map_append]; rfl
theorem IsTS.at {ts : List Tm} (h : IsTS ts) (k : Nat) (hk : k < ts.length) : ts[k].IsT := by
  induction ts generalizing k with
  | nil => simp at hk
  | cons t ts ih =>
    cases k with
    | zero => exact h.1
    | succ k => exact ih h.2 k (by simpa using hk)

set_option maxRecDepth 100000 in
set_option maxHeartbeats 8000000 in
theorem txS_any {C : Nat → Prop} : ∀ (m : Nat) {t : Tm} {tp : Option Addr} {tc : Nat} {rp : Option Addr} {rc : Nat} {p : Option Addr} {c : Nat} (w : World), t.nodes ≤ m → TM' w C t tp tc rp rc p c → t.wt ≤ 2097152 → t.IsT → Calls Tryd.prog 15 #[tmV t tp tc rp rc p c] w (StrRet t.text w)
  | 0, t, tp, tc, rp, rc, p, c, w, hm, hT, hn, hI => by rw [t.nodes_eq] at hm; omega
  | m + 1, t, tp, tc, rp, rc, p, c, w, hm, hT, hn, hI => by
    have HT := Lib.hid hT
    have HX0 := Lib.hid (Bx9.new w t tp tc rp rc p c 35)
    have HB0 := Lib.hid (al_below w (.cells (tmC t tp tc rp rc p c) 35))
    have SH := Lib.hid (shape hI)
    have hne := t.nodes_eq
    have hwe := t.wt_eq
    have hlen := wtS_ge t.args
    have HM := Lib.hid hm
    have HNE := Lib.hid hne
    have HIS := Lib.hid ((Tm.IsT_eq t).1 hI).1
    have HL := Lib.hid (textM_le t hI)
    have hwa : wtS t.args ≤ 2097152 := by omega
    have hna : t.name.size ≤ 2097152 := by omega
    have hno : t.other.size ≤ 2097152 := by omega
    clear hT hne hwe hm hI
    go_enter Tryd.func15, Tryd.ntmps15
    go_wp2_with fail
    go_loopw [3, 4] (fun v i wr => ∃ (k : Nat), k ≤ t.args.length ∧ i = .int .i64 k ∧ Own wr (w.heap.size + 1) v (tbs (t.args.take k)) ∧ Bx9 wr w.heap.size t tp tc rp rc p c ∧ Below w.heap.size w wr) (fun _ i _ => t.args.length - (intOf i).toNat)
    case atStart =>
      refine ⟨0, Nat.zero_le _, rfl, ?_, ?_, ?_⟩
      · have := own_empty (w.alloc (.cells (tmC t tp tc rp rc p c) 35))
        rw [World.size_alloc] at this
        exact this
      · exact HX0.out.keep (al_below _ _)
      · exact HB0.out.trans ((al_below _ _).mono (by simp))
    case round =>
      obtain ⟨k, hk, rfl, hown, hbx, hbr⟩ := hrel
      have HO := Lib.hid hown
      have HBX := Lib.hid hbx
      have HB := Lib.hid hbr
      have hsz := hbr.size
      obtain ⟨d0, d1, d2, d3, d4, d5, d6, d7, d8⟩ := hbx
      clear hown hbr
      by_cases hlk : k < t.args.length
      · obtain ⟨b, o, tp2, tc2, rp2, rc2, p2, c2, rfl, hC, hb, h9, hP⟩ := tm_part HT.out.args k hlk
        obtain ⟨g0, g1, g2, g3, g4, g5, g6, g7, g8⟩ := h9 wr (.of_below HB.out)
        have n4 := nodesM_at t.args k hlk
        have n5 := wtS_at t.args k hlk
        have hmk : t.args[k].nodes ≤ m := by have := HM.out; have := HNE.out; omega
        have hi0 : (0 : Int) ≤ (k : Int) := Int.natCast_nonneg _
        have hi1 : (k : Int) < (t.args.length : Int) := by omega
        have HC := Lib.hid (fun (W : World) (hW : Below wr.heap.size wr W) => txS_any m W hmk (hP.stays (.of_below (HB.out.trans (hW.mono HB.out.size)))) (by omega) (HIS.out.at k hlk))
        have htk : (t.args.take k).length ≤ 2097152 := by rw [List.length_take]; omega
        have HTK := Lib.hid (tbs_take t.args k hlk)
        clear hC hb h9 hP n4 n5 hmk
        go_wp2_with fail
        refine (HC.out _ (Below.refl _ _)).mono ?_
        rintro e w1 ⟨rfl, hb1⟩
        have HO1 := Lib.hid (HO.out.below hb1)
        have HX1 := Lib.hid (HBX.out.keep hb1)
        have HB1 := Lib.hid (HB.out.trans (hb1.mono HB.out.size))
        have hz1 := hb1.size
        have hlk2 : (tbs (t.args.take k)).length ≤ 8388608 := by rw [tbs_len]; omega
        have hz2 : w.heap.size + 1 ≤ w1.heap.size := by have := HBX.out.lt; omega
        clear hb1 d0 d1 d2 d3 d4 d5 d6 d7 d8 g0 g1 g2 g3 g4 g5 g6 g7 g8
        go_wp2_with (at_builtin; refine wpList_app_str rfl _ _ rfl (w.heap.size + 1) _ _ rfl HO1.out _ rfl hlk2 hz2 ?_; intro v' w2 hown2 hb2)
        have HO2 := Lib.hid hown2
        have HX2 := Lib.hid (HX1.out.at (hb2.block _ (by omega)))
        have HB2 := Lib.hid (HB1.out.trans (hb2.mono (by omega)))
        clear hown2 hb2
        go_wp2_with fail
        go_roundw
        case rel => exact ⟨k + 1, by omega, by go_num, by rw [HTK.out]; exact HO2.out, HX2.out, HB2.out⟩
        case measure => simp [intOf]; omega
      · obtain rfl : k = t.args.length := by omega
        rw [List.take_length] at HO
        clear hlk hk hlen
        obtain ⟨kk, a, o, n, ty, res, ts⟩ := t
        have sh := SH.out
        have hS : SS wr _ (tbs ts) := HO.out.ss
        simp only [Tm.name, Tm.other] at hna hno
        clear SH HM HNE HIS HBX HX0
        cases sh with
        | var a h =>
          simp only [Tm.kind, Tm.name, Tm.other, Tm.n, Tm.ty, Tm.res, Tm.args, Ty.kind_mk, Ty.args_mk, List.length_nil, List.length_cons, Nat.zero_add, Nat.reduceAdd] at d0 d1 d2 d3 d4 d5 d6 d7 d8
          go_wp2_with fail
          go_ret
          exact ⟨by rw [t_var]; rfl, HB.out⟩
        | int n h0 h1 =>
          simp only [Tm.kind, Tm.name, Tm.other, Tm.n, Tm.ty, Tm.res, Tm.args, Ty.kind_mk, Ty.args_mk, List.length_nil, List.length_cons, Nat.zero_add, Nat.reduceAdd] at d0 d1 d2 d3 d4 d5 d6 d7 d8
          go_wp2_with fail
          refine (fmt_any n (by omega) (by omega) wr).mono ?_
          rintro e w2 ⟨rfl, hb2⟩
          have HB2 := Lib.hid (HB.out.trans (hb2.mono HB.out.size))
          clear hb2
          go_wp2_with fail
          go_ret
          exact ⟨by rw [t_int]; rfl, HB2.out⟩
        | bool n h =>
          rcases h with rfl | rfl
          all_goals
            simp only [Tm.kind, Tm.name, Tm.other, Tm.n, Tm.ty, Tm.res, Tm.args, Ty.kind_mk, Ty.args_mk, List.length_nil, List.length_cons, Nat.zero_add, Nat.reduceAdd] at d0 d1 d2 d3 d4 d5 d6 d7 d8
            go_wp2_with fail
            go_ret
            exact ⟨by rw [t_bool]; rfl, HB.out⟩
        | op1 a ha x hx =>
          simp only [Tm.kind, Tm.name, Tm.other, Tm.n, Tm.ty, Tm.res, Tm.args, Ty.kind_mk, Ty.args_mk, List.length_nil, List.length_cons, Nat.zero_add, Nat.reduceAdd] at d0 d1 d2 d3 d4 d5 d6 d7 d8
          obtain ⟨bb, ii, dd, rfl, hbb, hcc⟩ := SS.one hS
          have hl := HL.out
          rw [t_op1] at hl
          simp only [List.length_cons, List.length_append, List.length_nil] at hl
          have q1 : ¬ 9223372036854775807 < 2 + x.text.length := by omega
          have q2 : ¬ 9223372036854775807 < 2 + x.text.length + 1 := by omega
          clear hl
          go_wp2_with fail
          go_ret
          exact ⟨by rw [t_op1, ← cat_t1]; rfl, HB.out⟩
        | op2 a ch ha hc x y hx hy =>
          simp only [Tm.kind, Tm.name, Tm.other, Tm.n, Tm.ty, Tm.res, Tm.args, Ty.kind_mk, Ty.args_mk, List.length_nil, List.length_cons, Nat.zero_add, Nat.reduceAdd] at d0 d1 d2 d3 d4 d5 d6 d7 d8
          obtain ⟨bb, ii, dd, rfl, hbb, hcc, hc2⟩ := SS.two hS
          have had : a.size = 1 := by
            have := congrArg List.length ha
            rw [ByteArray.toList_eq] at this
            simpa using this
          have hl := HL.out
          rw [t_op2] at hl
          simp only [List.length_cons, List.length_append, List.length_nil] at hl
          have q1 : ¬ 9223372036854775807 < 1 + x.text.length := by omega
          have q2 : ¬ 9223372036854775807 < 1 + x.text.length + a.size := by omega
          have q3 : ¬ 9223372036854775807 < 1 + x.text.length + a.size + y.text.length := by omega
          have q4 : ¬ 9223372036854775807 < 1 + x.text.length + a.size + y.text.length + 1 := by omega
          clear hl had
          go_wp2_with fail
          go_region
          go_wp2_with fail
          go_ret
          exact ⟨by rw [t_op2, ← cat_t2]; rfl, HB.out.drew⟩
        | quote x hx =>
          simp only [Tm.kind, Tm.name, Tm.other, Tm.n, Tm.ty, Tm.res, Tm.args, Ty.kind_mk, Ty.args_mk, List.length_nil, List.length_cons, Nat.zero_add, Nat.reduceAdd] at d0 d1 d2 d3 d4 d5 d6 d7 d8
          obtain ⟨bb, ii, dd, rfl, hbb, hcc⟩ := SS.one hS
          have hl := HL.out
          rw [t_quote] at hl
          simp only [List.length_cons, List.length_append, List.length_nil] at hl
          have q1 : ¬ 9223372036854775807 < 1 + x.text.length := by omega
          have q2 : ¬ 9223372036854775807 < 1 + x.text.length + 1 := by omega
          clear hl
          go_wp2_with fail
          go_ret
          exact ⟨by rw [t_quote, ← cat_t10]; rfl, HB.out⟩
        | splice x hx =>
          simp only [Tm.kind, Tm.name, Tm.other, Tm.n, Tm.ty, Tm.res, Tm.args, Ty.kind_mk, Ty.args_mk, List.length_nil, List.length_cons, Nat.zero_add, Nat.reduceAdd] at d0 d1 d2 d3 d4 d5 d6 d7 d8
          obtain ⟨bb, ii, dd, rfl, hbb, hcc⟩ := SS.one hS
          have hl := HL.out
          rw [t_splice] at hl
          simp only [List.length_cons, List.length_append, List.length_nil] at hl
          have q1 : ¬ 9223372036854775807 < 1 + x.text.length := by omega
          clear hl
          go_wp2_with fail
          go_ret
          exact ⟨by rw [t_splice, ← cat_t11]; rfl, HB.out⟩
        | run x hx =>
          simp only [Tm.kind, Tm.name, Tm.other, Tm.n, Tm.ty, Tm.res, Tm.args, Ty.kind_mk, Ty.args_mk, List.length_nil, List.length_cons, Nat.zero_add, Nat.reduceAdd] at d0 d1 d2 d3 d4 d5 d6 d7 d8
          have hl := HL.out
          rw [t_run] at hl
          simp only [List.length_cons, List.length_append, List.length_nil] at hl
          have HC := Lib.hid (long_run x.text tp tc rp rc p c _ wr hS (by omega))
          clear hl
          go_wp2_with fail
          refine HC.out.mono ?_
          rintro e w2 ⟨rfl, hb2⟩
          have HB2 := Lib.hid (HB.out.trans (hb2.mono HB.out.size))
          clear hb2
          go_wp2_with fail
          go_ret
          exact ⟨by rw [t_run]; rfl, HB2.out⟩
        | lift x hx =>
          simp only [Tm.kind, Tm.name, Tm.other, Tm.n, Tm.ty, Tm.res, Tm.args, Ty.kind_mk, Ty.args_mk, List.length_nil, List.length_cons, Nat.zero_add, Nat.reduceAdd] at d0 d1 d2 d3 d4 d5 d6 d7 d8
          have hl := HL.out
          rw [t_lift] at hl
          simp only [List.length_cons, List.length_append, List.length_nil] at hl
          have HC := Lib.hid (long_lift x.text tp tc rp rc p c _ wr hS (by omega))
          clear hl
          go_wp2_with fail
          refine HC.out.mono ?_
          rintro e w2 ⟨rfl, hb2⟩
          have HB2 := Lib.hid (HB.out.trans (hb2.mono HB.out.size))
          clear hb2
          go_wp2_with fail
          go_ret
          exact ⟨by rw [t_lift]; rfl, HB2.out⟩
        | cond x y z hx hy hz =>
          simp only [Tm.kind, Tm.name, Tm.other, Tm.n, Tm.ty, Tm.res, Tm.args, Ty.kind_mk, Ty.args_mk, List.length_nil, List.length_cons, Nat.zero_add, Nat.reduceAdd] at d0 d1 d2 d3 d4 d5 d6 d7 d8
          have hl := HL.out
          rw [t_cond] at hl
          simp only [List.length_cons, List.length_append, List.length_nil] at hl
          have HC := Lib.hid (long_cond x.text y.text z.text _ tp tc rp rc p c _ wr hS rfl (by simp only [List.length_append, List.length_cons]; omega))
          clear hl
          go_wp2_with fail
          refine HC.out.mono ?_
          rintro e w2 ⟨rfl, hb2⟩
          have HB2 := Lib.hid (HB.out.trans (hb2.mono HB.out.size))
          clear hb2
          go_wp2_with fail
          go_ret
          exact ⟨by rw [t_cond]; simp, HB2.out⟩
        | app x y hx hy =>
          simp only [Tm.kind, Tm.name, Tm.other, Tm.n, Tm.ty, Tm.res, Tm.args, Ty.kind_mk, Ty.args_mk, List.length_nil, List.length_cons, Nat.zero_add, Nat.reduceAdd] at d0 d1 d2 d3 d4 d5 d6 d7 d8
          have hl := HL.out
          rw [t_app] at hl
          simp only [List.length_cons, List.length_append, List.length_nil] at hl
          have HC := Lib.hid (long_app x.text y.text _ tp tc rp rc p c _ wr hS rfl (by simp only [List.length_append, List.length_cons]; omega))
          clear hl
          go_wp2_with fail
          refine HC.out.mono ?_
          rintro e w2 ⟨rfl, hb2⟩
          have HB2 := Lib.hid (HB.out.trans (hb2.mono HB.out.size))
          clear hb2
          go_wp2_with fail
          go_ret
          exact ⟨by rw [t_app]; simp, HB2.out⟩
        | bind a h x y hx hy =>
          simp only [Tm.kind, Tm.name, Tm.other, Tm.n, Tm.ty, Tm.res, Tm.args, Ty.kind_mk, Ty.args_mk, List.length_nil, List.length_cons, Nat.zero_add, Nat.reduceAdd] at d0 d1 d2 d3 d4 d5 d6 d7 d8
          have hl := HL.out
          rw [t_bind] at hl
          simp only [List.length_cons, List.length_append, List.length_nil] at hl
          have HC := Lib.hid (long_bind a x.text y.text _ tp tc rp rc p c _ wr hS rfl (by simp only [List.length_append, List.length_cons]; omega) hna)
          clear hl
          go_wp2_with fail
          refine HC.out.mono ?_
          rintro e w2 ⟨rfl, hb2⟩
          have HB2 := Lib.hid (HB.out.trans (hb2.mono HB.out.size))
          clear hb2
          go_wp2_with fail
          go_ret
          exact ⟨by rw [t_bind]; simp, HB2.out⟩
        | lam a h ty hv x hx =>
          simp only [Tm.kind, Tm.name, Tm.other, Tm.n, Tm.ty, Tm.res, Tm.args, Ty.kind_mk, Ty.args_mk, List.length_nil, List.length_cons, Nat.zero_add, Nat.reduceAdd] at d0 d1 d2 d3 d4 d5 d6 d7 d8
          have hl := HL.out
          rw [t_lam] at hl
          simp only [List.length_cons, List.length_append, List.length_nil] at hl
          have HC := Lib.hid (long_lam a ty x.text tp tc rp rc p c _ wr hS hv (HT.out.ty.keep HB.out) (by omega) hna)
          clear hl
          go_wp2_with fail
          refine HC.out.mono ?_
          rintro e w2 ⟨rfl, hb2⟩
          have HB2 := Lib.hid (HB.out.trans (hb2.mono HB.out.size))
          clear hb2
          go_wp2_with fail
          go_ret
          exact ⟨by rw [t_lam]; rfl, HB2.out⟩
        | fix a o ha hb hab ty res hv hv2 x hx =>
          simp only [Tm.kind, Tm.name, Tm.other, Tm.n, Tm.ty, Tm.res, Tm.args, Ty.kind_mk, Ty.args_mk, List.length_nil, List.length_cons, Nat.zero_add, Nat.reduceAdd] at d0 d1 d2 d3 d4 d5 d6 d7 d8
          have hl := HL.out
          rw [t_fix] at hl
          simp only [List.length_cons, List.length_append, List.length_nil] at hl
          have HC := Lib.hid (long_fix a o ty res x.text tp tc rp rc p c _ wr hS hv hv2 (HT.out.ty.keep HB.out) (HT.out.res.keep HB.out) (by omega) hna hno)
          clear hl
          go_wp2_with fail
          refine HC.out.mono ?_
          rintro e w2 ⟨rfl, hb2⟩
          have HB2 := Lib.hid (HB.out.trans (hb2.mono HB.out.size))
          clear hb2
          go_wp2_with fail
          go_ret
          exact ⟨by rw [t_fix]; rfl, HB2.out⟩

set_option maxRecDepth 100000 in
set_option maxHeartbeats 1000000 in
/-- THE MODEL's TermText. -/
theorem termTextS_any {C : Nat → Prop} {t : Tm} {v : Value} {w : World} (h : TM w C t v) (hn : t.wt ≤ 2097152) (x : List UInt8) (hx : (t.IsT ∧ x = t.text) ∨ (¬ t.IsT ∧ x = [])) :
    Calls Tryd.prog 6 #[v] w (StrRet x w) := by
  obtain ⟨tp, tc, rp, rc, p, c, rfl, hT⟩ := h
  have HT := Lib.hid hT
  have HX := Lib.hid (Bx9.new w t tp tc rp rc p c 35)
  have HB := Lib.hid (al_below w (.cells (tmC t tp tc rp rc p c) 35))
  have HXX := Lib.hid hx
  clear hT hx
  go_enter Tryd.func6, Tryd.ntmps6
  go_wp2_with fail
  refine (isTM_any _ _ (Nat.le_refl _) (HT.out.stays (.of_below HB.out)) hn).mono ?_
  rintro e w1 ⟨r, hr, rfl, hb1⟩
  have HB1 := Lib.hid (HB.out.trans (hb1.mono HB.out.size))
  obtain ⟨g0, g1, g2, g3, g4, g5, g6, g7, g8⟩ := HX.out.keep hb1
  clear hb1
  rcases HXX.out with ⟨hi, rfl⟩ | ⟨hi, rfl⟩
  · obtain rfl : r = true := hr.2 hi
    have HC := Lib.hid (txS_any _ w1 (Nat.le_refl _) (HT.out.stays (.of_below HB1.out)) hn hi)
    clear hr
    go_wp2_with fail
    refine HC.out.mono ?_
    rintro e w2 ⟨rfl, hb2⟩
    have HB2 := Lib.hid (HB1.out.trans (hb2.mono HB1.out.size))
    clear hb2
    go_wp2_with fail
    go_ret
    exact ⟨rfl, HB2.out⟩
  · obtain rfl : r = false := by
      cases r with
      | false => rfl
      | true => exact absurd (hr.1 rfl) hi
    clear hr
    go_wp2_with fail
    go_ret
    exact ⟨rfl, HB1.out⟩
set_option maxRecDepth 100000 in
set_option maxHeartbeats 1000000 in
/-- THE MODEL's FormatTerm. -/
theorem fmtTermS_any {C : Nat → Prop} {t : Tm} {v : Value} {w : World} (h : TM w C t v) (hn : t.wt ≤ 2097152) (x : List UInt8) (hx : (t.Valid ∧ x = t.text) ∨ (¬ t.Valid ∧ x = [])) :
    Calls Tryd.prog 10 #[v] w (StrRet x w) := by
  have HV := Lib.hid (fun w' (hb : Below w.heap.size w w') => h.keep hb)
  obtain ⟨tp, tc, rp, rc, p, c, rfl, hT⟩ := h
  have HT := Lib.hid hT
  have HX := Lib.hid (Bx9.new w t tp tc rp rc p c 35)
  have HB := Lib.hid (al_below w (.cells (tmC t tp tc rp rc p c) 35))
  have HXX := Lib.hid hx
  clear hT hx
  go_enter Tryd.func10, Tryd.ntmps10
  go_wp2_with fail
  refine (validM_any (HV.out _ HB.out) hn).mono ?_
  rintro e w1 ⟨r, hr, rfl, hb1⟩
  have HB1 := Lib.hid (HB.out.trans (hb1.mono HB.out.size))
  obtain ⟨g0, g1, g2, g3, g4, g5, g6, g7, g8⟩ := HX.out.keep hb1
  clear hb1
  rcases HXX.out with ⟨hi, rfl⟩ | ⟨hi, rfl⟩
  · obtain rfl : r = true := hr.2 hi
    have HC := Lib.hid (txS_any _ w1 (Nat.le_refl _) (HT.out.stays (.of_below HB1.out)) hn hi.2.2)
    clear hr
    go_wp2_with fail
    refine HC.out.mono ?_
    rintro e w2 ⟨rfl, hb2⟩
    have HB2 := Lib.hid (HB1.out.trans (hb2.mono HB1.out.size))
    clear hb2
    go_wp2_with fail
    go_ret
    exact ⟨rfl, HB2.out⟩
  · obtain rfl : r = false := by
      cases r with
      | false => rfl
      | true => exact absurd (hr.1 rfl) hi
    clear hr
    go_wp2_with fail
    go_ret
    exact ⟨rfl, HB1.out⟩
end Go.Proofs.YtdofjnjiandcbaaDoor
