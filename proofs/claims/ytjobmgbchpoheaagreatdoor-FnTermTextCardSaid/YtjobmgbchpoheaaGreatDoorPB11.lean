/-
  Several texts of the proof in one (each says below what it holds): TmIsT TmText TmShape Num.
-/
import Derived.Test.YtjobmgbchpoheaaGreatDoorPB10
import Derived.Test.YtjobmgbchpoheaaGreatDoorPB2
import Derived.Deep.RegionHeld3
import Derived.Lib.Join
import Derived.Lib.ItoaLen
import Derived.Lib.ItoaNum
import Derived.Lib.AtoiAll
namespace Go.Proofs.YtjobmgbchpoheaaGreatDoor
open Go Go.RowKit

mutual
def Tm.IsT : Tm → Prop
  | .mk k a b n t r ts => IsTS ts ∧ (Tm.mk k a b n t r ts).FieldsOk ∧ (ts.length : Int) = (Tm.mk k a b n t r ts).arity
def IsTS : List Tm → Prop
  | [] => True
  | t :: ts => t.IsT ∧ IsTS ts
end
theorem Tm.IsT_eq (t : Tm) : t.IsT ↔ IsTS t.args ∧ t.FieldsOk ∧ (t.args.length : Int) = t.arity := by cases t; simp only [Tm.IsT, Tm.args]
theorem IsTS_append (a b : List Tm) : IsTS (a ++ b) ↔ IsTS a ∧ IsTS b := by
  induction a with
  | nil => simp [IsTS]
  | cons x a ih => simp only [List.cons_append, IsTS, ih, and_assoc]
theorem IsTS_take (ts : List Tm) (k : Nat) (h : k < ts.length) : IsTS (ts.take (k + 1)) ↔ IsTS (ts.take k) ∧ ts[k].IsT := by
  rw [tm_take_next h, IsTS_append]; simp [IsTS]
theorem IsTS_at (ts : List Tm) (k : Nat) (h : k < ts.length) (hs : IsTS ts) : ts[k].IsT := by
  have := (IsTS_append (ts.take (k + 1)) (ts.drop (k + 1))).1 (by rw [List.take_append_drop]; exact hs)
  exact ((IsTS_take ts k h).1 this.1).2
theorem keepN' {W w1 : World} {p : Addr} {v : Value} (hb1 : Below W.heap.size W w1) (h : W.cell? p = some v) : w1.cell? p = some v := (hb1.cell (World.block_lt_of_cell? W _ h)).trans h
theorem keep9m {w W w1 : World} {p0 p1 p2 p3 p4 p5 p6 p7 p8 : Addr} {v0 v1 v2 v3 v4 v5 v6 v7 v8 : Value} (hb1 : Below W.heap.size W w1) (h : W.cell? p0 = some v0 ∧ W.cell? p1 = some v1 ∧ W.cell? p2 = some v2 ∧ W.cell? p3 = some v3 ∧ W.cell? p4 = some v4 ∧ W.cell? p5 = some v5 ∧ W.cell? p6 = some v6 ∧ W.cell? p7 = some v7 ∧ W.cell? p8 = some v8 ∧ Below w.heap.size w W) : w1.cell? p0 = some v0 ∧ w1.cell? p1 = some v1 ∧ w1.cell? p2 = some v2 ∧ w1.cell? p3 = some v3 ∧ w1.cell? p4 = some v4 ∧ w1.cell? p5 = some v5 ∧ w1.cell? p6 = some v6 ∧ w1.cell? p7 = some v7 ∧ w1.cell? p8 = some v8 ∧ Below w.heap.size w w1 := by
  obtain ⟨h0, h1, h2, h3, h4, h5, h6, h7, h8, hz⟩ := h
  exact ⟨keepN' hb1 h0, keepN' hb1 h1, keepN' hb1 h2, keepN' hb1 h3, keepN' hb1 h4, keepN' hb1 h5, keepN' hb1 h6, keepN' hb1 h7, keepN' hb1 h8, hz.trans (hb1.mono hz.size)⟩
theorem fields_yes {C : Nat → Prop} {t : Tm} {tp rp p : Option Addr} {tc rc c : Nat} {w : World} (hT : TM' w C t tp tc rp rc p c) (hn : t.wt ≤ 2097152) (h : t.FieldsOk) :
    Calls Tryz.prog 64 #[tmV t tp tc rp rc p c] w fun e w' => e = .returned (.bool true) ∧ Below w.heap.size w w' := by
  refine (fieldsS_any t tp tc rp rc p c w hT hn).mono ?_
  rintro e w' ⟨r, hr, rfl, hw⟩
  exact ⟨by rw [hr.2 h], hw⟩
theorem fields_no {C : Nat → Prop} {t : Tm} {tp rp p : Option Addr} {tc rc c : Nat} {w : World} (hT : TM' w C t tp tc rp rc p c) (hn : t.wt ≤ 2097152) (h : ¬ t.FieldsOk) :
    Calls Tryz.prog 64 #[tmV t tp tc rp rc p c] w fun e w' => e = .returned (.bool false) ∧ Below w.heap.size w w' := by
  refine (fieldsS_any t tp tc rp rc p c w hT hn).mono ?_
  rintro e w' ⟨r, hr, rfl, hw⟩
  exact ⟨by rw [Bool.eq_false_iff.2 (fun e => h (hr.1 e))], hw⟩

set_option maxRecDepth 100000 in
set_option maxHeartbeats 4000000 in
theorem isTM_any {C : Nat → Prop} : ∀ (m : Nat) {t : Tm} {tp : Option Addr} {tc : Nat} {rp : Option Addr} {rc : Nat} {p : Option Addr} {c : Nat} (w : World), t.nodes ≤ m → TM' w C t tp tc rp rc p c → t.wt ≤ 2097152 → Calls Tryz.prog 28 #[tmV t tp tc rp rc p c] w (Tells t.IsT w)
  | 0, t, tp, tc, rp, rc, p, c, w, hm, hT, hn => by rw [t.nodes_eq] at hm; omega
  | m + 1, t, tp, tc, rp, rc, p, c, w, hm, hT, hn => by
    have HT := Lib.hid hT
    have HX0 := Lib.hid (Bx9.new w t tp tc rp rc p c 29)
    have HB0 := Lib.hid (al_below w (.cells (tmC t tp tc rp rc p c) 29))
    have hne := t.nodes_eq
    have hwe := t.wt_eq
    have hlen := wtS_ge t.args
    have HM := Lib.hid hm
    have HNE := Lib.hid hne
    have HNW := Lib.hid hn
    have HIE := Lib.hid t.IsT_eq
    have hwa : wtS t.args ≤ 2097152 := by omega
    clear hT hne hwe hm hn
    go_enter Tryz.func28, Tryz.ntmps28
    go_wp2_with fail
    go_loopw [3] (fun i wr => ∃ (k : Nat), k ≤ t.args.length ∧ i = .int .i64 k ∧ IsTS (t.args.take k) ∧ Below (w.alloc (.cells (tmC t tp tc rp rc p c) 29)).heap.size (w.alloc (.cells (tmC t tp tc rp rc p c) 29)) wr) (fun i _ => t.args.length - (intOf i).toNat)
    case atStart => exact ⟨0, Nat.zero_le _, rfl, by simp [IsTS], Below.refl _ _⟩
    case round =>
      obtain ⟨k, hk, rfl, hts, hbr⟩ := hrel
      have HTS := Lib.hid hts
      have HBR := Lib.hid hbr
      have HBW := Lib.hid (HB0.out.trans (hbr.mono HB0.out.size))
      obtain ⟨d0, d1, d2, d3, d4, d5, d6, d7, d8⟩ := HX0.out.keep hbr
      clear hbr hts
      by_cases hlk : k < t.args.length
      · obtain ⟨b, o, tp2, tc2, rp2, rc2, p2, c2, rfl, hC, hb, h9, hP⟩ := tm_part HT.out.args k hlk
        obtain ⟨g0, g1, g2, g3, g4, g5, g6, g7, g8⟩ := h9 wr (.of_below HBW.out)
        have n4 := nodesM_at t.args k hlk
        have n5 := wtS_at t.args k hlk
        have hmk : t.args[k].nodes ≤ m := by have := HM.out; have := HNE.out; omega
        have hi0 : (0 : Int) ≤ (k : Int) := Int.natCast_nonneg _
        have hi1 : (k : Int) < (t.args.length : Int) := by omega
        have HC := Lib.hid (isTM_any m wr hmk (hP.stays (.of_below HBW.out)) (by omega))
        clear hC hb h9 hP n4 n5 hmk d0 d1 d2 d3 d4 d5 d6 d7
        go_wp2_with fail
        refine HC.out.mono ?_
        rintro e w1 ⟨r, hr, rfl, hb1⟩
        have HB1 := Lib.hid (HBR.out.trans (hb1.mono HBR.out.size))
        have HR := Lib.hid hr
        clear hb1 hr
        cases hr0 : r
        · have hnf : ¬ t.args[k].IsT := fun h => by have := HR.out.2 h; rw [hr0] at this; cases this
          have HF := Lib.hid hnf
          clear hnf
          subst hr0
          go_wp2_with fail
          go_ret
          exact ⟨_, lit_f (fun h => HF.out (IsTS_at _ k hlk (HIE.out.1 h).1)), rfl, box_rest HB1.out⟩
        · have HF := Lib.hid (HR.out.1 hr0)
          subst hr0
          go_wp2_with fail
          go_roundw
          case rel => exact ⟨k + 1, by omega, by go_num, (IsTS_take _ k hlk).2 ⟨HTS.out, HF.out⟩, HB1.out⟩
          case measure => simp [intOf]; omega
      · obtain rfl : k = t.args.length := by omega
        have hall := HTS.out
        rw [List.take_length] at hall
        have HALL := Lib.hid hall
        clear hall
        by_cases hf : t.FieldsOk
        · have HFC := Lib.hid (fields_yes (w := wr.drew) (C := C) (HT.out.stays (.of_below HBW.out.drew)) HNW.out hf)
          have HF := Lib.hid hf
          clear hf
          go_wp2_with fail
          go_region_held3 (fun w' => w'.cell? ⟨w.heap.size, 0, none⟩ = some (.int .i64 t.kind) ∧ w'.cell? ⟨w.heap.size, 1, none⟩ = some (.string t.name) ∧ w'.cell? ⟨w.heap.size, 2, none⟩ = some (.string t.other) ∧ w'.cell? ⟨w.heap.size, 3, none⟩ = some (.int .i64 t.n) ∧ w'.cell? ⟨w.heap.size, 4, none⟩ = some (.int .i64 t.ty.kind) ∧ w'.cell? ⟨w.heap.size, 5, none⟩ = some (.slice tp t.ty.args.length tc) ∧ w'.cell? ⟨w.heap.size, 6, none⟩ = some (.int .i64 t.res.kind) ∧ w'.cell? ⟨w.heap.size, 7, none⟩ = some (.slice rp t.res.args.length rc) ∧ w'.cell? ⟨w.heap.size, 8, none⟩ = some (.slice p t.args.length c) ∧ Below w.heap.size w w')
            (first
              | (go_keep; done)
              | exact ⟨d0, d1, d2, d3, d4, d5, d6, d7, d8, HBW.out.drew⟩
              | exact keep9m hb6 (by assumption)
              | exact keep9m hb5 (by assumption))
            (first
              | (go_at_call 64; refine HFC.out.mono ?_; rintro e w5 ⟨rfl, hb5⟩)
              | (go_at_call 65; refine (arityS_any t tp tc rp rc p c _).mono ?_; rintro e w6 ⟨rfl, hb6⟩))
          rename_i hH
          have HB7 := Lib.hid hH.2.2.2.2.2.2.2.2.2
          clear hH hb5 hb6
          by_cases har : (t.args.length : Int) = t.arity
          · have HA := Lib.hid har
            have har1 : ((t.args.length : Int) == t.arity) = true := by rw [beq_iff_eq]; exact har
            clear har
            go_wp2_with fail
            go_ret
            exact ⟨_, lit_t (HIE.out.2 ⟨HALL.out, HF.out, HA.out⟩), (by first | rfl | (rw [har1]; rfl)), HB7.out⟩
          · have HA := Lib.hid har
            have har1 : ((t.args.length : Int) == t.arity) = false := by rw [beq_eq_false_iff_ne]; exact har
            clear har
            go_wp2_with fail
            go_ret
            exact ⟨_, lit_f (fun h => HA.out (HIE.out.1 h).2.2), (by first | rfl | (rw [har1]; rfl)), HB7.out⟩
        · have HFC := Lib.hid (fields_no (w := wr.drew) (C := C) (HT.out.stays (.of_below HBW.out.drew)) HNW.out hf)
          have HF := Lib.hid hf
          clear hf
          go_wp2_with fail
          refine wp_region_noPanic ?_
          refine wp_region_held_drew (S := (fun w' => w'.cell? ⟨w.heap.size, 0, none⟩ = some (.int .i64 t.kind) ∧ w'.cell? ⟨w.heap.size, 1, none⟩ = some (.string t.name) ∧ w'.cell? ⟨w.heap.size, 2, none⟩ = some (.string t.other) ∧ w'.cell? ⟨w.heap.size, 3, none⟩ = some (.int .i64 t.n) ∧ w'.cell? ⟨w.heap.size, 4, none⟩ = some (.int .i64 t.ty.kind) ∧ w'.cell? ⟨w.heap.size, 5, none⟩ = some (.slice tp t.ty.args.length tc) ∧ w'.cell? ⟨w.heap.size, 6, none⟩ = some (.int .i64 t.res.kind) ∧ w'.cell? ⟨w.heap.size, 7, none⟩ = some (.slice rp t.res.args.length rc) ∧ w'.cell? ⟨w.heap.size, 8, none⟩ = some (.slice p t.args.length c) ∧ Below w.heap.size w w')) (by kernel_rfl) ?_ (fun hHeld => ?_)
          · try dsimp only
            exact ⟨d0, d1, d2, d3, d4, d5, d6, d7, d8, HBW.out.drew⟩
          refine wpAnyH_take (i := 0) (oi := ({ dst := some 18, op := Op.load 29 (Operand.tmp 1), type := 29, pos := "l05_term.go:86", after := #[], guard := none } : Oper)) (v := ?_) rfl (by kernel_rfl) (by kernel_rfl) (by kernel_rfl) (fun _ _ _ h => h) (Or.inl ⟨by rfl, ?_⟩) (by assumption) ?_
          rotate_left
          · intro w hSw
            try dsimp only at hSw
            go_simp
            try with_reducible rfl
          try simp only [Act.put, List.setIfInBounds_toArray, List.set_cons_zero, List.set_cons_succ]
          refine wpAnyH_ready (rs := [1]) (by kernel_rfl) (by simp) ?_
          refine AllReadyH.cons (o := ({ dst := some 19, op := Op.call { callee := Callee.value (Operand.func 64), args := #[Operand.tmp 18], argTypes := #[29] }, type := 4, pos := "l05_term.go:86", after := #[{ on := 0, ground := Ground.data }], guard := none } : Oper)) rfl (fun K hK => ?_) AllReadyH.nil
          go_simp
          (go_at_call 64; refine HFC.out.mono ?_; rintro e w5 ⟨rfl, hb5⟩)
          refine hK.out _ _ ?_ (fun hHeld1 => ?_)
          · try dsimp only
            exact keep9m hb5 (by assumption)
          clear hK K
          try simp only [Act.put, List.setIfInBounds_toArray, List.set_cons_zero, List.set_cons_succ]
          refine wpAnyH_take (i := 2) (oi := ({ dst := some 20, op := Op.move (Operand.tmp 19), type := 4, pos := "l05_term.go:86", after := #[{ on := 1, ground := Ground.data }, { on := 1, ground := Ground.chain }], guard := none } : Oper)) (v := ?_) rfl (by kernel_rfl) (by kernel_rfl) (by kernel_rfl) (fun _ _ _ h => h) (Or.inl ⟨by rfl, ?_⟩) (by assumption) ?_
          rotate_left
          · intro w hSw
            try dsimp only at hSw
            go_simp
            try with_reducible rfl
          try simp only [Act.put, List.setIfInBounds_toArray, List.set_cons_zero, List.set_cons_succ]
          refine wpAnyH_take (i := 3) (oi := ({ dst := some 21, op := Op.fieldAddr 29 (Operand.tmp 1) 6, type := 0, pos := "l05_term.go:86", after := #[{ on := 2, ground := Ground.guard }], guard := some (2, true) } : Oper)) (v := undef) rfl (by kernel_rfl) (by kernel_rfl) (by kernel_rfl) (fun _ _ _ h => h) (Or.inr ⟨by rfl, rfl⟩) (by assumption) ?_
          try simp only [Act.put, List.setIfInBounds_toArray, List.set_cons_zero, List.set_cons_succ]
          refine wpAnyH_take (i := 4) (oi := ({ dst := some 22, op := Op.load 27 (Operand.tmp 21), type := 27, pos := "l05_term.go:86", after := #[{ on := 3, ground := Ground.data }, { on := 2, ground := Ground.guard }], guard := some (2, true) } : Oper)) (v := undef) rfl (by kernel_rfl) (by kernel_rfl) (by kernel_rfl) (fun _ _ _ h => h) (Or.inr ⟨by rfl, rfl⟩) (by assumption) ?_
          try simp only [Act.put, List.setIfInBounds_toArray, List.set_cons_zero, List.set_cons_succ]
          refine wpAnyH_take (i := 5) (oi := ({ dst := some 23, op := Op.call { callee := Callee.builtin Builtin.len, args := #[Operand.tmp 22], argTypes := #[27] }, type := 3, pos := "l05_term.go:86", after := #[{ on := 4, ground := Ground.data }, { on := 2, ground := Ground.guard }], guard := some (2, true) } : Oper)) (v := undef) rfl (by kernel_rfl) (by kernel_rfl) (by kernel_rfl) (fun _ _ _ h => h) (Or.inr ⟨by rfl, rfl⟩) (by assumption) ?_
          try simp only [Act.put, List.setIfInBounds_toArray, List.set_cons_zero, List.set_cons_succ]
          refine wpAnyH_take (i := 6) (oi := ({ dst := some 24, op := Op.load 29 (Operand.tmp 1), type := 29, pos := "l05_term.go:86", after := #[{ on := 2, ground := Ground.guard }], guard := some (2, true) } : Oper)) (v := undef) rfl (by kernel_rfl) (by kernel_rfl) (by kernel_rfl) (fun _ _ _ h => h) (Or.inr ⟨by rfl, rfl⟩) (by assumption) ?_
          try simp only [Act.put, List.setIfInBounds_toArray, List.set_cons_zero, List.set_cons_succ]
          refine wpAnyH_take (i := 7) (oi := ({ dst := some 25, op := Op.call { callee := Callee.value (Operand.func 65), args := #[Operand.tmp 24], argTypes := #[29] }, type := 3, pos := "l05_term.go:86", after := #[{ on := 6, ground := Ground.data }, { on := 2, ground := Ground.chain }, { on := 2, ground := Ground.guard }], guard := some (2, true) } : Oper)) (v := undef) rfl (by kernel_rfl) (by kernel_rfl) (by kernel_rfl) (fun _ _ _ h => h) (Or.inr ⟨by rfl, rfl⟩) (by assumption) ?_
          try simp only [Act.put, List.setIfInBounds_toArray, List.set_cons_zero, List.set_cons_succ]
          refine wpAnyH_take (i := 8) (oi := ({ dst := some 26, op := Op.binOp BinOp.eql 3 (Operand.tmp 23) (Operand.tmp 25) 3, type := 4, pos := "l05_term.go:86", after := #[{ on := 5, ground := Ground.data }, { on := 7, ground := Ground.data }, { on := 2, ground := Ground.guard }], guard := some (2, true) } : Oper)) (v := undef) rfl (by kernel_rfl) (by kernel_rfl) (by kernel_rfl) (fun _ _ _ h => h) (Or.inr ⟨by rfl, rfl⟩) (by assumption) ?_
          try simp only [Act.put, List.setIfInBounds_toArray, List.set_cons_zero, List.set_cons_succ]
          refine wpAnyH_take (i := 9) (oi := ({ dst := some 27, op := Op.pick (Operand.tmp 20) (Operand.tmp 26) (Operand.const (Value.bool false)), type := 4, pos := "l05_term.go:86", after := #[{ on := 2, ground := Ground.data }, { on := 8, ground := Ground.data }], guard := none } : Oper)) (v := ?_) rfl (by kernel_rfl) (by kernel_rfl) (by kernel_rfl) (fun _ _ _ h => h) (Or.inl ⟨by rfl, ?_⟩) (by assumption) ?_
          rotate_left
          · intro w hSw
            try dsimp only at hSw
            go_simp
            try with_reducible rfl
          try simp only [Act.put, List.setIfInBounds_toArray, List.set_cons_zero, List.set_cons_succ]
          refine wpAnyH_take (i := 10) (oi := ({ dst := some 2, op := Op.assign (Operand.tmp 27), type := 4, pos := "l05_term.go:86", after := #[{ on := 9, ground := Ground.data }, { on := 7, ground := Ground.chain }, { on := 0, ground := Ground.phase }, { on := 1, ground := Ground.phase }, { on := 2, ground := Ground.phase }, { on := 3, ground := Ground.phase }, { on := 4, ground := Ground.phase }, { on := 5, ground := Ground.phase }, { on := 6, ground := Ground.phase }, { on := 7, ground := Ground.phase }, { on := 8, ground := Ground.phase }, { on := 9, ground := Ground.phase }], guard := none } : Oper)) (v := ?_) rfl (by kernel_rfl) (by kernel_rfl) (by kernel_rfl) (fun _ _ _ h => h) (Or.inl ⟨by rfl, ?_⟩) (by assumption) ?_
          rotate_left
          · intro w hSw
            try dsimp only at hSw
            go_simp
            try with_reducible rfl
          try simp only [Act.put, List.setIfInBounds_toArray, List.set_cons_zero, List.set_cons_succ]
          refine wpAnyH_done (by kernel_rfl) ?_ _
          refine NoPanic.normal ?_
          clear hHeld hHeld1
          have HB7 := Lib.hid (HBW.out.trans (((Below.refl _ _).drew.trans hb5).mono HBW.out.size))
          clear hb5
          go_wp2_with fail
          go_ret
          exact ⟨_, lit_f (fun h => HF.out (HIE.out.1 h).2.1), rfl, HB7.out⟩
end Go.Proofs.YtjobmgbchpoheaaGreatDoor
namespace Go.Proofs.YtjobmgbchpoheaaGreatDoor
open Go Go.RowKit

def hd (ps : List (List UInt8)) : List UInt8 := ps.headD []
def txN (k : Int) (a o : List UInt8) (n : Int) (ty res : List UInt8) (ps : List (List UInt8)) : List UInt8 :=
  if k = 1 then a
  else if k = 2 then Lib.itoa n
  else if k = 3 then [35, if n = 1 then 116 else 102]
  else if k = 4 then (if ps.length = 1 then 40 :: 33 :: (hd ps ++ [41]) else 40 :: (hd ps ++ (a ++ (hd ps.tail ++ [41]))))
  else if k = 10 then 60 :: (hd ps ++ [62])
  else if k = 11 then 126 :: hd ps
  else if k = 5 then 40 :: 105 :: 102 :: 32 :: (Lib.join ps [32] ++ [41])
  else if k = 6 then 40 :: 92 :: (a ++ 58 :: (ty ++ 46 :: (hd ps ++ [41])))
  else if k = 7 then 40 :: (Lib.join ps [32] ++ [41])
  else if k = 8 then 40 :: 108 :: 101 :: 116 :: 32 :: (a ++ 61 :: (Lib.join ps [32] ++ [41]))
  else if k = 9 then 40 :: 114 :: 101 :: 99 :: 32 :: (a ++ 32 :: (o ++ 58 :: (ty ++ 62 :: (res ++ 46 :: (hd ps ++ [41])))))
  else if k = 12 then 40 :: 114 :: 117 :: 110 :: 32 :: (hd ps ++ [41])
  else 40 :: 108 :: 105 :: 102 :: 116 :: 32 :: (hd ps ++ [41])
mutual
def Tm.text : Tm → List UInt8
  | .mk k a o n ty res ts => txN k a.data.toList o.data.toList n ty.text res.text (textsM ts)
def textsM : List Tm → List (List UInt8)
  | [] => []
  | t :: ts => t.text :: textsM ts
end
theorem textsM_map (ts : List Tm) : textsM ts = ts.map Tm.text := by
  induction ts with
  | nil => rfl
  | cons t ts ih => rw [textsM, ih]; rfl
theorem textsM_len (ts : List Tm) : (textsM ts).length = ts.length := by rw [textsM_map, List.length_map]
def sumL (ps : List (List UInt8)) : Nat := (ps.map List.length).sum
theorem hd_le (ps : List (List UInt8)) : (hd ps).length ≤ sumL ps := by
  cases ps <;> simp [hd, sumL]
theorem tl_le (ps : List (List UInt8)) : (hd ps).length + (hd ps.tail).length ≤ sumL ps := by
  match ps with
  | [] => simp [hd, sumL]
  | [a] => simp [hd, sumL]
  | a :: b :: r => simp [hd, sumL]
theorem joinTail_len (r : List (List UInt8)) (sep : List UInt8) : (Lib.joinTail sep r).length = sumL r + r.length * sep.length := by
  induction r with
  | nil => simp [Lib.joinTail, sumL]
  | cons x r ih =>
    simp only [Lib.joinTail, sumL, List.map_cons, List.flatten_cons, List.length_append, List.sum_cons, List.length_cons] at ih ⊢
    rw [ih, Nat.add_mul]
    omega
theorem join_len (ps : List (List UInt8)) : (Lib.join ps [32]).length ≤ sumL ps + ps.length := by
  cases ps with
  | nil => simp [Lib.join_nil]
  | cons x r =>
    rw [Lib.join_cons, List.length_append, joinTail_len]
    simp [sumL]
    omega
theorem txN_le {k : Int} {a o : List UInt8} {n : Int} {ty res : List UInt8} {ps : List (List UInt8)} (hn : 0 ≤ n ∧ n ≤ 10006) (hp : ps.length ≤ 3) :
    (txN k a o n ty res ps).length ≤ 24 + a.length + o.length + (if k = 6 ∨ k = 9 then ty.length else 0) + (if k = 9 then res.length else 0) + sumL ps := by
  have h1 := hd_le ps
  have h2 := tl_le ps
  have h3 := join_len ps
  have h4 := Lib.itoa_length_le n (by omega) (by omega)
  unfold txN
  by_cases k1 : k = 1
  · rw [if_pos k1]
    omega
  rw [if_neg k1]
  by_cases k2 : k = 2
  · rw [if_pos k2]
    omega
  rw [if_neg k2]
  by_cases k3 : k = 3
  · rw [if_pos k3]
    simp only [List.length_cons, List.length_nil]
    omega
  rw [if_neg k3]
  by_cases k4 : k = 4
  · rw [if_pos k4]
    by_cases l1 : ps.length = 1
    · rw [if_pos l1]
      simp only [List.length_cons, List.length_append, List.length_nil]
      omega
    · rw [if_neg l1]
      simp only [List.length_cons, List.length_append, List.length_nil]
      omega
  rw [if_neg k4]
  by_cases k10 : k = 10
  · rw [if_pos k10]
    simp only [List.length_cons, List.length_append, List.length_nil]
    omega
  rw [if_neg k10]
  by_cases k11 : k = 11
  · rw [if_pos k11, List.length_cons]
    omega
  rw [if_neg k11]
  by_cases k5 : k = 5
  · rw [if_pos k5]
    simp only [List.length_cons, List.length_append, List.length_nil]
    omega
  rw [if_neg k5]
  by_cases k6 : k = 6
  · rw [if_pos k6, if_pos (Or.inl k6)]
    simp only [List.length_cons, List.length_append, List.length_nil]
    omega
  rw [if_neg k6]
  by_cases k7 : k = 7
  · rw [if_pos k7]
    simp only [List.length_cons, List.length_append, List.length_nil]
    omega
  rw [if_neg k7]
  by_cases k8 : k = 8
  · rw [if_pos k8]
    simp only [List.length_cons, List.length_append, List.length_nil]
    omega
  rw [if_neg k8]
  by_cases k9 : k = 9
  · rw [if_pos k9, if_pos (Or.inr k9), if_pos k9]
    simp only [List.length_cons, List.length_append, List.length_nil]
    omega
  rw [if_neg k9]
  by_cases k12 : k = 12
  · rw [if_pos k12]
    simp only [List.length_cons, List.length_append, List.length_nil]
    omega
  rw [if_neg k12]
  simp only [List.length_cons, List.length_append, List.length_nil]
  omega
theorem NodeOk.texts {t : Tm} (hf : t.FieldsOk) (ha : (t.args.length : Int) = t.arity) : (0 ≤ t.n ∧ t.n ≤ 10006) ∧ t.args.length ≤ 3 ∧ ((t.kind = 6 ∨ t.kind = 9) → t.ty.valid = true) ∧ (t.kind = 9 → t.res.valid = true) := by
  refine ⟨?_, ?_, hf.ty1.1, hf.res1.1⟩
  · have h := hf.n
    unfold Tm.most at h
    split at h
    · exact h
    · split at h <;> omega
  · have h := (arK_range t.kind _ (opAr_range t.name.toList)).2
    have h2 : t.arity ≤ 3 := h
    omega
mutual
theorem textM_le : ∀ (t : Tm), t.IsT → t.text.length ≤ 32 * (1 + t.wt)
  | .mk k a o n ty res ts, h => by
    obtain ⟨h1, h2, h3⟩ := (Tm.IsT_eq _).1 h
    have hs := textsM_le ts h1
    obtain ⟨q1, q2, q3, q4⟩ := NodeOk.texts h2 h3
    have hl := txN_le (k := k) (a := a.data.toList) (o := o.data.toList) (n := n) (ty := ty.text) (res := res.text) (ps := textsM ts) q1 (by rw [textsM_len]; exact q2)
    have e1 : a.data.toList.length = a.size := rfl
    have e2 : o.data.toList.length = o.size := rfl
    have t1 := ty.nodes_eq
    have t2 := res.nodes_eq
    have l1 : (if k = 6 ∨ k = 9 then ty.text.length else 0) ≤ 3 * (1 + nodesS ty.args) := by
      split
      · rename_i hk
        have hv := (valid_iff ty).1 (q3 hk)
        have := text_le _ ty (Nat.le_refl _) hv.2.2
        omega
      · omega
    have l2 : (if k = 9 then res.text.length else 0) ≤ 3 * (1 + nodesS res.args) := by
      split
      · rename_i hk
        have hv := (valid_iff res).1 (q4 hk)
        have := text_le _ res (Nat.le_refl _) hv.2.2
        omega
      · omega
    simp only [Tm.text, Tm.wt]
    omega
theorem textsM_le : ∀ (ts : List Tm), IsTS ts → sumL (textsM ts) ≤ 32 * wtS ts
  | [], _ => by simp [textsM, sumL]
  | t :: ts, h => by
    have h1 := textM_le t h.1
    have h2 := textsM_le ts h.2
    simp only [textsM, sumL, List.map_cons, List.sum_cons, wtS] at h2 ⊢
    omega
end
end Go.Proofs.YtjobmgbchpoheaaGreatDoor
namespace Go.Proofs.YtjobmgbchpoheaaGreatDoor
open Go Go.RowKit

abbrev E0 : ByteArray := ⟨#[]⟩
abbrev Z0 : Ty := .mk 0 []
inductive Shape : Tm → Prop where
  | var (a : ByteArray) (h : Nm a) : Shape (.mk 1 a E0 0 Z0 Z0 [])
  | int (n : Int) (h0 : 0 ≤ n) (h1 : n ≤ 10006) : Shape (.mk 2 E0 E0 n Z0 Z0 [])
  | bool (n : Int) (h : n = 0 ∨ n = 1) : Shape (.mk 3 E0 E0 n Z0 Z0 [])
  | op1 (a : ByteArray) (ha : a.toList = [33]) (x : Tm) (hx : x.IsT) : Shape (.mk 4 a E0 0 Z0 Z0 [x])
  | op2 (a : ByteArray) (c : UInt8) (ha : a.toList = [c]) (hc : opAr [c] = 2) (x y : Tm) (hx : x.IsT) (hy : y.IsT) : Shape (.mk 4 a E0 0 Z0 Z0 [x, y])
  | cond (x y z : Tm) (hx : x.IsT) (hy : y.IsT) (hz : z.IsT) : Shape (.mk 5 E0 E0 0 Z0 Z0 [x, y, z])
  | lam (a : ByteArray) (h : Nm a) (ty : Ty) (ht : ty.valid = true) (x : Tm) (hx : x.IsT) : Shape (.mk 6 a E0 0 ty Z0 [x])
  | app (x y : Tm) (hx : x.IsT) (hy : y.IsT) : Shape (.mk 7 E0 E0 0 Z0 Z0 [x, y])
  | bind (a : ByteArray) (h : Nm a) (x y : Tm) (hx : x.IsT) (hy : y.IsT) : Shape (.mk 8 a E0 0 Z0 Z0 [x, y])
  | fix (a b : ByteArray) (ha : Nm a) (hb : Nm b) (hab : a ≠ b) (ty res : Ty) (ht : ty.valid = true) (hr : res.valid = true) (x : Tm) (hx : x.IsT) : Shape (.mk 9 a b 0 ty res [x])
  | quote (x : Tm) (hx : x.IsT) : Shape (.mk 10 E0 E0 0 Z0 Z0 [x])
  | splice (x : Tm) (hx : x.IsT) : Shape (.mk 11 E0 E0 0 Z0 Z0 [x])
  | run (x : Tm) (hx : x.IsT) : Shape (.mk 12 E0 E0 0 Z0 Z0 [x])
  | lift (x : Tm) (hx : x.IsT) : Shape (.mk 13 E0 E0 0 Z0 Z0 [x])
theorem emp_eq {a : ByteArray} (h : a.toList = []) : a = E0 := by
  rw [ByteArray.toList_eq] at h
  apply ByteArray.ext
  exact Array.toList_inj.1 h
theorem zero_eq {t : Ty} (h : zeroT t) : t = Z0 := by
  obtain ⟨k, ts⟩ := t
  obtain ⟨h1, h2⟩ := h
  simp only [Ty.kind_mk, Ty.args_mk] at h1 h2
  rw [h1, List.eq_nil_of_length_eq_zero h2]
theorem one_of {ts : List Tm} (h : ts.length = 1) : ∃ x, ts = [x] := by
  match ts, h with
  | [x], _ => exact ⟨x, rfl⟩
theorem two_of {ts : List Tm} (h : ts.length = 2) : ∃ x y, ts = [x, y] := by
  match ts, h with
  | [x, y], _ => exact ⟨x, y, rfl⟩
theorem three_of {ts : List Tm} (h : ts.length = 3) : ∃ x y z, ts = [x, y, z] := by
  match ts, h with
  | [x, y, z], _ => exact ⟨x, y, z, rfl⟩
theorem opAr_one {l : List UInt8} (h : opAr l = 1) : l = [33] := by
  unfold opAr at h
  repeat' split at h
  all_goals first | assumption | omega
theorem opAr_two {l : List UInt8} (h : opAr l = 2) : ∃ c, l = [c] ∧ opAr [c] = 2 := by
  have h0 := h
  unfold opAr at h
  repeat' split at h
  all_goals first | omega | exact ⟨_, by assumption, by decide⟩
theorem shape {t : Tm} (h : t.IsT) : Shape t := by
  obtain ⟨hs, hf, ha⟩ := (Tm.IsT_eq t).1 h
  obtain ⟨k, a, b, n, ty, res, ts⟩ := t
  have hnm := hf.names
  have hn := hf.n
  have hty := hf.ty2
  have hres := hf.res2
  have hv1 := hf.ty1
  have hv2 := hf.res1
  simp only [Tm.arity, Tm.kind, Tm.name, Tm.n, Tm.ty, Tm.res, Tm.args, Tm.most] at ha hn hty hres hv1 hv2 hs
  by_cases hk : k < 1 ∨ 13 < k
  · exfalso
    have : arK k (opAr a.toList) = -1 := by
      unfold arK
      rw [if_neg (by omega), if_neg (by omega), if_neg (by omega), if_neg (by omega), if_neg (by omega), if_neg (by omega), if_neg (by omega), if_neg (by omega), if_neg (by omega), if_neg (by omega), if_neg (by omega), if_neg (by omega), if_neg (by omega)]
    omega
  rcases (show k = 1 ∨ k = 2 ∨ k = 3 ∨ k = 4 ∨ k = 5 ∨ k = 6 ∨ k = 7 ∨ k = 8 ∨ k = 9 ∨ k = 10 ∨ k = 11 ∨ k = 12 ∨ k = 13 by omega) with rfl | rfl | rfl | rfl | rfl | rfl | rfl | rfl | rfl | rfl | rfl | rfl | rfl
  · -- 1
    have hl : ts = [] := by simp only [arK] at ha; simp at ha; exact ha
    have hn0 : n = 0 := by simp at hn; omega
    have z1 := zero_eq (hty.resolve_left (by decide))
    have z2 := zero_eq (hres.resolve_left (by decide))
    obtain ⟨h1, h2⟩ := (names_1 (by simp [Tm.kind]) (by simp [Tm.kind])).1 hnm
    have e2 := emp_eq h2
    subst hl hn0 z1 z2
    simp only [Tm.name, Tm.other] at h1 e2
    subst e2
    exact .var a h1
  · -- 2
    have hl : ts = [] := by simp only [arK] at ha; simp at ha; exact ha
    have z1 := zero_eq (hty.resolve_left (by decide))
    have z2 := zero_eq (hres.resolve_left (by decide))
    obtain ⟨h1, h2⟩ := (names_0 (by simp [Tm.kind]) (by simp [Tm.kind]) (by simp [Tm.kind])).1 hnm
    have e1 := emp_eq h1
    have e2 := emp_eq h2
    subst hl z1 z2
    simp only [Tm.name, Tm.other] at e1 e2
    subst e1 e2
    simp at hn
    exact .int n hn.1 hn.2
  · -- 3
    have hl : ts = [] := by simp only [arK] at ha; simp at ha; exact ha
    have z1 := zero_eq (hty.resolve_left (by decide))
    have z2 := zero_eq (hres.resolve_left (by decide))
    obtain ⟨h1, h2⟩ := (names_0 (by simp [Tm.kind]) (by simp [Tm.kind]) (by simp [Tm.kind])).1 hnm
    have e1 := emp_eq h1
    have e2 := emp_eq h2
    subst hl z1 z2
    simp only [Tm.name, Tm.other] at e1 e2
    subst e1 e2
    simp at hn
    exact .bool n (by omega)
  · -- 4
    have hn0 : n = 0 := by simp at hn; omega
    have z1 := zero_eq (hty.resolve_left (by decide))
    have z2 := zero_eq (hres.resolve_left (by decide))
    obtain ⟨h1, h2⟩ := (names_4 (by simp [Tm.kind])).1 hnm
    have e2 := emp_eq h2
    subst hn0 z1 z2
    simp only [Tm.name, Tm.other] at h1 e2
    subst e2
    have hr := opAr_range a.toList
    have ha2 : (ts.length : Int) = opAr a.toList := by rw [ha]; simp [arK]
    rcases (show ts.length = 1 ∨ ts.length = 2 by omega) with hl | hl
    · obtain ⟨x, rfl⟩ := one_of hl
      obtain ⟨hx, -⟩ := hs
      exact .op1 a (opAr_one (by rw [← ha2, hl]; rfl)) x hx
    · obtain ⟨x, y, rfl⟩ := two_of hl
      obtain ⟨hx, hy, -⟩ := hs
      obtain ⟨c, hc, hc2⟩ := opAr_two (l := a.toList) (by rw [← ha2, hl]; rfl)
      exact .op2 a c hc hc2 x y hx hy
  · -- 5
    have hl : ts.length = 3 := by simp only [arK] at ha; simp at ha; omega
    obtain ⟨x, y, z, rfl⟩ := three_of hl
    obtain ⟨hx, hy, hz, -⟩ := hs
    have hn0 : n = 0 := by simp at hn; omega
    have z1 := zero_eq (hty.resolve_left (by decide))
    have z2 := zero_eq (hres.resolve_left (by decide))
    obtain ⟨h1, h2⟩ := (names_0 (by simp [Tm.kind]) (by simp [Tm.kind]) (by simp [Tm.kind])).1 hnm
    have e1 := emp_eq h1
    have e2 := emp_eq h2
    subst hn0 z1 z2
    simp only [Tm.name, Tm.other] at e1 e2
    subst e1 e2
    exact .cond x y z hx hy hz
  · -- 6
    have hl : ts.length = 1 := by simp only [arK] at ha; simp at ha; omega
    obtain ⟨x, rfl⟩ := one_of hl
    obtain ⟨hx, -⟩ := hs
    have hn0 : n = 0 := by simp at hn; omega
    have z2 := zero_eq (hres.resolve_left (by decide))
    obtain ⟨h1, h2⟩ := (names_1 (by simp [Tm.kind]) (by simp [Tm.kind])).1 hnm
    have e2 := emp_eq h2
    have hv := hv1.1 (Or.inl rfl)
    subst hn0 z2
    simp only [Tm.name, Tm.other] at h1 e2
    subst e2
    exact .lam a h1 ty hv x hx
  · -- 7
    have hl : ts.length = 2 := by simp only [arK] at ha; simp at ha; omega
    obtain ⟨x, y, rfl⟩ := two_of hl
    obtain ⟨hx, hy, -⟩ := hs
    have hn0 : n = 0 := by simp at hn; omega
    have z1 := zero_eq (hty.resolve_left (by decide))
    have z2 := zero_eq (hres.resolve_left (by decide))
    obtain ⟨h1, h2⟩ := (names_0 (by simp [Tm.kind]) (by simp [Tm.kind]) (by simp [Tm.kind])).1 hnm
    have e1 := emp_eq h1
    have e2 := emp_eq h2
    subst hn0 z1 z2
    simp only [Tm.name, Tm.other] at e1 e2
    subst e1 e2
    exact .app x y hx hy
  · -- 8
    have hl : ts.length = 2 := by simp only [arK] at ha; simp at ha; omega
    obtain ⟨x, y, rfl⟩ := two_of hl
    obtain ⟨hx, hy, -⟩ := hs
    have hn0 : n = 0 := by simp at hn; omega
    have z1 := zero_eq (hty.resolve_left (by decide))
    have z2 := zero_eq (hres.resolve_left (by decide))
    obtain ⟨h1, h2⟩ := (names_1 (by simp [Tm.kind]) (by simp [Tm.kind])).1 hnm
    have e2 := emp_eq h2
    subst hn0 z1 z2
    simp only [Tm.name, Tm.other] at h1 e2
    subst e2
    exact .bind a h1 x y hx hy
  · -- 9
    have hl : ts.length = 1 := by simp only [arK] at ha; simp at ha; omega
    obtain ⟨x, rfl⟩ := one_of hl
    obtain ⟨hx, -⟩ := hs
    have hn0 : n = 0 := by simp at hn; omega
    obtain ⟨h1, h2, h3⟩ := (names_9 (by simp [Tm.kind]) (by simp [Tm.kind]) (by simp [Tm.kind])).1 hnm
    have hv := hv1.1 (Or.inr rfl)
    have hw := hv2.1 rfl
    subst hn0
    exact .fix a b h1 h2 h3 ty res hv hw x hx
  · -- 10
    have hl : ts.length = 1 := by simp only [arK] at ha; simp at ha; omega
    obtain ⟨x, rfl⟩ := one_of hl
    obtain ⟨hx, -⟩ := hs
    have hn0 : n = 0 := by simp at hn; omega
    have z1 := zero_eq (hty.resolve_left (by decide))
    have z2 := zero_eq (hres.resolve_left (by decide))
    obtain ⟨h1, h2⟩ := (names_0 (by simp [Tm.kind]) (by simp [Tm.kind]) (by simp [Tm.kind])).1 hnm
    have e1 := emp_eq h1
    have e2 := emp_eq h2
    subst hn0 z1 z2
    simp only [Tm.name, Tm.other] at e1 e2
    subst e1 e2
    exact .quote x hx
  · -- 11
    have hl : ts.length = 1 := by simp only [arK] at ha; simp at ha; omega
    obtain ⟨x, rfl⟩ := one_of hl
    obtain ⟨hx, -⟩ := hs
    have hn0 : n = 0 := by simp at hn; omega
    have z1 := zero_eq (hty.resolve_left (by decide))
    have z2 := zero_eq (hres.resolve_left (by decide))
    obtain ⟨h1, h2⟩ := (names_0 (by simp [Tm.kind]) (by simp [Tm.kind]) (by simp [Tm.kind])).1 hnm
    have e1 := emp_eq h1
    have e2 := emp_eq h2
    subst hn0 z1 z2
    simp only [Tm.name, Tm.other] at e1 e2
    subst e1 e2
    exact .splice x hx
  · -- 12
    have hl : ts.length = 1 := by simp only [arK] at ha; simp at ha; omega
    obtain ⟨x, rfl⟩ := one_of hl
    obtain ⟨hx, -⟩ := hs
    have hn0 : n = 0 := by simp at hn; omega
    have z1 := zero_eq (hty.resolve_left (by decide))
    have z2 := zero_eq (hres.resolve_left (by decide))
    obtain ⟨h1, h2⟩ := (names_0 (by simp [Tm.kind]) (by simp [Tm.kind]) (by simp [Tm.kind])).1 hnm
    have e1 := emp_eq h1
    have e2 := emp_eq h2
    subst hn0 z1 z2
    simp only [Tm.name, Tm.other] at e1 e2
    subst e1 e2
    exact .run x hx
  · -- 13
    have hl : ts.length = 1 := by simp only [arK] at ha; simp at ha; omega
    obtain ⟨x, rfl⟩ := one_of hl
    obtain ⟨hx, -⟩ := hs
    have hn0 : n = 0 := by simp at hn; omega
    have z1 := zero_eq (hty.resolve_left (by decide))
    have z2 := zero_eq (hres.resolve_left (by decide))
    obtain ⟨h1, h2⟩ := (names_0 (by simp [Tm.kind]) (by simp [Tm.kind]) (by simp [Tm.kind])).1 hnm
    have e1 := emp_eq h1
    have e2 := emp_eq h2
    subst hn0 z1 z2
    simp only [Tm.name, Tm.other] at e1 e2
    subst e1 e2
    exact .lift x hx
end Go.Proofs.YtjobmgbchpoheaaGreatDoor
namespace Go.Proofs.YtjobmgbchpoheaaGreatDoor
open Go
def dec (m : Nat) : List UInt8 := if m = 0 then [] else Lib.decDigits m

theorem dec_zero : dec 0 = [] := rfl
theorem dec_pos {m : Nat} (h : 1 ≤ m) : dec m = Lib.decDigits m := by unfold dec; rw [if_neg (by omega)]
theorem dec_step {m : Nat} (h : 1 ≤ m) : dec (m / 10) ++ [UInt8.ofNat (48 + m % 10)] = dec m := by
  rw [dec_pos h, Lib.decDigits]
  by_cases hm : m < 10
  · rw [dif_pos hm, show m / 10 = 0 by omega, dec_zero, Nat.mod_eq_of_lt hm]; rfl
  · rw [dif_neg hm, dec_pos (by omega)]
theorem dec_put {m : Nat} (h : 1 ≤ m) {l r : List UInt8} (hl : dec m ++ l = r) : dec (m / 10) ++ (UInt8.ofNat (48 + m % 10) :: l) = r := by
  rw [← hl, ← dec_step h, List.append_assoc]; rfl

theorem nDigits_le : ∀ (k u : Nat), 1 ≤ k → u < 10 ^ k → Lib.nDigits u ≤ k
  | 0, _, h, _ => by omega
  | k + 1, u, _, h => by
    by_cases hu : u < 10
    · rw [Lib.nDigits_small hu]; omega
    · rw [Lib.nDigits_big hu]
      have h1 : 1 ≤ k := by
        cases k with
        | zero => simp at h; omega
        | succ k => omega
      have := nDigits_le k (u / 10) h1 (by rw [Nat.pow_succ] at h; omega)
      omega
theorem dec_length_le {u : Nat} (h : u ≤ 9223372036854775808) : (Lib.decDigits u).length ≤ 19 := by
  rw [Lib.decDigits_length]; exact nDigits_le 19 u (by decide) (by simp only [Nat.reducePow]; omega)
end Go.Proofs.YtjobmgbchpoheaaGreatDoor
