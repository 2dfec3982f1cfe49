/-
  Several texts of the proof in one (each says below what it holds): FormI.
-/
import Derived.Test.YtjobmgbchpoheaaGreatDoorPB37
import Derived.Test.YtjobmgbchpoheaaGreatDoorPB20
import Derived.Test.YtjobmgbchpoheaaGreatDoorPB7
import Derived.Deep.CutRange
import Derived.Deep.CutBlock
import Derived.Deep.RegionHeld3
namespace Go.Proofs.YtjobmgbchpoheaaGreatDoor
open Go Go.RowKit

theorem Tm.NodeOk.ar {t : Tm} (h : t.NodeOk) : t.arOk := ⟨h.2, fun k => by
  have h1 := h.2
  have h2 := (names_4 k).1 h.1.names
  rw [Tm.arity, k] at h1
  simp only [arK] at h1
  have h3 : (arK 4 (opAr t.name.toList)) = opAr t.name.toList := by simp [arK]
  omega⟩
theorem node_fields {t : Tm} (ha : t.arOk) : t.NodeOk ↔ t.FieldsOk := ⟨fun h => h.1, fun h => ⟨h, ha.1⟩⟩
theorem zero_valid {t : Ty} (h : zeroT t) : ¬ t.valid = true := fun e => by
  have h1 := ((valid_walk t).1 e).1 (t, 1) (by rw [walkT_eq]; simp)
  have h2 := (okK_kind t).1 h1.1
  have h3 := h.1
  omega
theorem fo_plain {t : Tm} (h6 : ¬ t.kind = 6) (h9 : ¬ t.kind = 9) : t.FieldsOk ↔ zeroT t.ty ∧ zeroT t.res ∧ (0 ≤ t.n ∧ t.n ≤ t.most) ∧ t.namesOk :=
  ⟨fun h => ⟨h.ty2.elim (fun e => (e.elim h6 h9).elim) id, h.res2.elim (fun e => (h9 e).elim) id, h.n, h.names⟩,
   fun h => ⟨⟨fun e => (e.elim h6 h9).elim, fun e => (zero_valid h.1 e).elim⟩, Or.inr h.1, ⟨fun e => (h9 e).elim, fun e => (zero_valid h.2.1 e).elim⟩, Or.inr h.2.1, h.2.2.1, h.2.2.2⟩⟩
theorem fo_six {t : Tm} (k : t.kind = 6) : t.FieldsOk ↔ t.ty.valid = true ∧ zeroT t.res ∧ (0 ≤ t.n ∧ t.n ≤ t.most) ∧ t.namesOk :=
  have h9 : ¬ t.kind = 9 := by omega
  ⟨fun h => ⟨h.ty1.1 (Or.inl k), h.res2.elim (fun e => (h9 e).elim) id, h.n, h.names⟩,
   fun h => ⟨⟨fun _ => h.1, fun _ => Or.inl k⟩, Or.inl (Or.inl k), ⟨fun e => (h9 e).elim, fun e => (zero_valid h.2.1 e).elim⟩, Or.inr h.2.1, h.2.2.1, h.2.2.2⟩⟩
theorem fo_nine {t : Tm} (k : t.kind = 9) : t.FieldsOk ↔ t.ty.valid = true ∧ t.res.valid = true ∧ (0 ≤ t.n ∧ t.n ≤ t.most) ∧ t.namesOk :=
  ⟨fun h => ⟨h.ty1.1 (Or.inr k), h.res1.1 k, h.n, h.names⟩,
   fun h => ⟨⟨fun _ => h.1, fun _ => Or.inr k⟩, Or.inl (Or.inr k), ⟨fun _ => h.2.1, fun _ => k⟩, Or.inl k, h.2.2.1, h.2.2.2⟩⟩
theorem emp_list : (⟨#[]⟩ : ByteArray).toList = [] := nil_size rfl
def Tm.Clear (u : Tm) : Prop := u.name.toList = [] ∧ u.other.toList = [] ∧ u.n = 0 ∧ zeroT u.ty ∧ zeroT u.res

theorem clear_name {t : Tm} (h6 : ¬ t.kind = 6) (h9 : ¬ t.kind = 9) (h4 : ¬ t.kind = 4) (ha : t.arOk) (h2 : t.kind = 1 ∨ t.kind = 8) {r : Bool} (hr : r = true ↔ Nm t.name) :
    (r = true ∧ (Tm.mk t.kind ⟨#[]⟩ t.other t.n t.ty t.res t.args).Clear) ↔ t.NodeOk := by
  rw [node_fields ha, fo_plain h6 h9, names_1 h4 (by omega), hr, show t.most = 0 from by unfold Tm.most; rw [if_neg (by omega), if_neg (by omega)]]
  constructor
  · rintro ⟨a, b, c, d, e, f⟩
    exact ⟨e, f, ⟨by show 0 ≤ t.n; have : t.n = 0 := d; omega, by have : t.n = 0 := d; omega⟩, a, c⟩
  · rintro ⟨a, b, c, d, e⟩
    exact ⟨d, emp_list, e, by show t.n = 0; omega, a, b⟩
theorem clear_num {t : Tm} (h4 : ¬ t.kind = 4) (h1 : ¬ (t.kind = 1 ∨ t.kind = 6 ∨ t.kind = 8)) (h9 : ¬ t.kind = 9) (ha : t.arOk) {r : Bool} (hr : r = true ↔ 0 ≤ t.n ∧ t.n ≤ t.most) :
    (r = true ∧ (Tm.mk t.kind t.name t.other 0 t.ty t.res t.args).Clear) ↔ t.NodeOk := by
  rw [node_fields ha, fo_plain (fun e => h1 (Or.inr (Or.inl e))) h9, names_0 h4 h1 h9, hr]
  constructor
  · rintro ⟨a, b, c, d, e, f⟩
    exact ⟨e, f, a, b, c⟩
  · rintro ⟨a, b, c, d, e⟩
    exact ⟨c, d, e, rfl, a, b⟩
theorem clear_op {t : Tm} (h4 : t.kind = 4) (ha : t.arOk) :
    (true = true ∧ (Tm.mk t.kind ⟨#[]⟩ t.other t.n t.ty t.res t.args).Clear) ↔ t.NodeOk := by
  have hp : 0 < opAr t.name.toList := by
    have h1 := ha.1
    have h2 := ha.2 h4
    rw [Tm.arity, h4] at h1
    have h3 : (arK 4 (opAr t.name.toList)) = opAr t.name.toList := by simp [arK]
    omega
  rw [node_fields ha, fo_plain (by omega) (by omega), names_4 h4, show t.most = 0 from by unfold Tm.most; rw [if_neg (by omega), if_neg (by omega)]]
  constructor
  · rintro ⟨-, b, c, d, e, f⟩
    exact ⟨e, f, ⟨by show 0 ≤ t.n; have : t.n = 0 := d; omega, by have : t.n = 0 := d; omega⟩, hp, c⟩
  · rintro ⟨a, b, c, d, e⟩
    exact ⟨rfl, emp_list, e, by show t.n = 0; omega, a, b⟩
theorem clear_six {t : Tm} (k : t.kind = 6) (ha : t.arOk) {r : Bool} (hr : r = true ↔ Nm t.name ∧ t.ty.valid = true) :
    (r = true ∧ (Tm.mk t.kind ⟨#[]⟩ t.other t.n (.mk 0 []) t.res t.args).Clear) ↔ t.NodeOk := by
  rw [node_fields ha, fo_six k, names_1 (by omega) (by omega), hr, show t.most = 0 from by unfold Tm.most; rw [if_neg (by omega), if_neg (by omega)]]
  constructor
  · rintro ⟨⟨a, a2⟩, b, c, d, e, f⟩
    exact ⟨a2, f, ⟨by show 0 ≤ t.n; have : t.n = 0 := d; omega, by have : t.n = 0 := d; omega⟩, a, c⟩
  · rintro ⟨a, b, c, d, e⟩
    exact ⟨⟨d, a⟩, emp_list, e, by show t.n = 0; omega, ⟨rfl, rfl⟩, b⟩
theorem clear_nine {t : Tm} (k : t.kind = 9) (ha : t.arOk) {r : Bool} (hr : r = true ↔ Nm t.name ∧ Nm t.other ∧ t.name ≠ t.other ∧ t.ty.valid = true ∧ t.res.valid = true) :
    (r = true ∧ (Tm.mk t.kind ⟨#[]⟩ ⟨#[]⟩ t.n (.mk 0 []) (.mk 0 []) t.args).Clear) ↔ t.NodeOk := by
  rw [node_fields ha, fo_nine k, names_9 (by omega) (by omega) k, hr, show t.most = 0 from by unfold Tm.most; rw [if_neg (by omega), if_neg (by omega)]]
  constructor
  · rintro ⟨⟨a1, a2, a3, a4, a5⟩, b, c, d, e, f⟩
    exact ⟨a4, a5, ⟨by show 0 ≤ t.n; have : t.n = 0 := d; omega, by have : t.n = 0 := d; omega⟩, a1, a2, a3⟩
  · rintro ⟨a, b, c, d1, d2, d3⟩
    exact ⟨⟨d1, d2, d3, a, b⟩, emp_list, emp_list, by show t.n = 0; omega, ⟨rfl, rfl⟩, ⟨rfl, rfl⟩⟩
theorem clear_oth {t : Tm} (h4 : ¬ t.kind = 4) (h1 : ¬ (t.kind = 1 ∨ t.kind = 6 ∨ t.kind = 8)) (h9 : ¬ t.kind = 9) (h2 : ¬ t.kind = 2) (h3 : ¬ t.kind = 3) (ha : t.arOk) :
    (true = true ∧ (Tm.mk t.kind t.name t.other t.n t.ty t.res t.args).Clear) ↔ t.NodeOk := by
  rw [node_fields ha, fo_plain (fun e => h1 (Or.inr (Or.inl e))) h9, names_0 h4 h1 h9, show t.most = 0 from by unfold Tm.most; rw [if_neg h2, if_neg h3]]
  constructor
  · rintro ⟨-, b, c, d, e, f⟩
    exact ⟨e, f, ⟨by show 0 ≤ t.n; have : t.n = 0 := d; omega, by have : t.n = 0 := d; omega⟩, b, c⟩
  · rintro ⟨a, b, c, d, e⟩
    exact ⟨rfl, d, e, by show t.n = 0; omega, a, b⟩

set_option maxRecDepth 100000 in
set_option maxHeartbeats 8000000 in
theorem formI_any {C : Nat → Prop} {t : Tm} {tp : Option Addr} {tc : Nat} {rp : Option Addr} {rc : Nat} {p : Option Addr} {c : Nat} (w : World) (hka : KA w) (hT : TM' w C t tp tc rp rc p c) (hn : t.wt ≤ 2097152) :
    Calls Tryz.prog 52 #[tmV t tp tc rp rc p c] w (Tells t.NodeOk w) := by
  have hb0 := al_below w (.cells (tmC t tp tc rp rc p c) 29)
  have HA := Lib.hid (hasAr_any t tp tc rp rc p c _ (hka.below hb0) hn)
  have HB := Lib.hid hb0
  have hwt := t.wt_eq
  have HNM := Lib.hid (fun W => nmI_any t.name W (by omega))
  have HNO := Lib.hid (fun W => nmI_any t.other W (by omega))
  have n1 : nodesS t.ty.args ≤ 2097152 := by omega
  have n2 : nodesS t.res.args ≤ 2097152 := by omega
  have HVT := Lib.hid (fun (W : World) (hW : Below w.heap.size w W) => validI_any (⟨_, rfl, hT.ty.keep hW⟩ : TT W C t.ty (.agg #[.int .i64 t.ty.kind, .slice tp t.ty.args.length tc])) n1)
  have HVR := Lib.hid (fun (W : World) (hW : Below w.heap.size w W) => validI_any (⟨_, rfl, hT.res.keep hW⟩ : TT W C t.res (.agg #[.int .i64 t.res.kind, .slice rp t.res.args.length rc])) n2)
  clear hka hb0 hwt n1 n2 hT hn
  have HX := Lib.hid (Bx9.new w t tp tc rp rc p c 29)
  go_enter Tryz.func52, Tryz.ntmps52
  go_wp2_with fail
  refine HA.out.mono ?_
  rintro e w1 ⟨r, hr, rfl, hb1⟩
  have HR := Lib.hid hr
  have HB1 := Lib.hid (HB.out.trans (hb1.mono HB.out.size))
  have HX1 := Lib.hid (HX.out.keep hb1)
  obtain ⟨g0, g1, g2, g3, g4, g5, g6, g7, g8⟩ := HX.out.keep hb1
  clear hr hb1 HA
  cases r with
  | false =>
    go_wp2_with fail
    go_ret
    exact ⟨_, lit_f (fun h => by have := HR.out.2 h.ar; cases this), rfl, HB1.out⟩
  | true =>
    have HAR := Lib.hid (HR.out.1 rfl)
    have hbn := al_below w1 (.cells (tmC t tp tc rp rc p c) 29)
    have HBN := Lib.hid (HB1.out.trans (hbn.mono HB1.out.size))
    have HXN := Lib.hid (HX1.out.keep hbn)
    have HNB := Lib.hid (blk_new w1 (.cells (tmC t tp tc rp rc p c) 29))
    have n0 : (w1.alloc (.cells #[.int .i64 t.kind, .string t.name, .string t.other, .int .i64 t.n, .int .i64 t.ty.kind, .slice tp t.ty.args.length tc, .int .i64 t.res.kind, .slice rp t.res.args.length rc, .slice p t.args.length c] 29)).cell? ⟨w.heap.size, 0, none⟩ = some (.int .i64 t.kind) := HXN.out.kind
    clear hbn
    go_upto_block 0 with fail
    go_cut [3] from 5 to 112 (fun s3 wx => ∃ (pr : Bool) (u : Tm) (tp' : Option Addr) (tc' : Nat) (rp' : Option Addr) (rc' : Nat), s3 = .bool pr ∧ Bx9 wx w1.heap.size u tp' tc' rp' rc' p c ∧ ((pr = true ∧ u.Clear) ↔ t.NodeOk) ∧ Below w.heap.size w wx)
    case first =>
      clear n0 g0 g1 g2 g3 g4 g5 g6 g7 g8
      obtain ⟨g0, g1, g2, g3, g4, g5, g6, g7, g8⟩ := HXN.out
      have HKN := Lib.hid HNB.out
      by_cases k1 : t.kind = 1
      · have HKD := Lib.hid k1
        have e1 : (t.kind == 1) = true := by simp [k1]
        clear k1
        go_wp2_with fail
        refine (HNM.out _).mono ?_
        rintro e w2 ⟨r2, hr2, rfl, hb2⟩
        have HR2 := Lib.hid hr2
        clear hr2
        have HB2 := Lib.hid (HBN.out.trans (hb2.mono HBN.out.size))
        have HX2 := Lib.hid (HXN.out.keep hb2)
        have HK2 := Lib.hid ((hb2.block _ (Array.getElem?_eq_some_iff.1 HKN.out).1).trans HKN.out)
        clear hb2 g0 g1 g2 g3 g4 g5 g6 g7 g8
        obtain ⟨g0, g1, g2, g3, g4, g5, g6, g7, g8⟩ := HX2.out
        have c1 := cell_of_blk HK2.out 1
        have cz := unfrozen_of_blk HK2.out
        go_wp2_with fail
        go_meet
        exact ⟨_, (.mk t.kind ⟨#[]⟩ t.other t.n t.ty t.res t.args), tp, tc, rp, rc, rfl, Bx9.of (by rw [Go.Joins.block_setCell HK2.out _]; rfl), clear_name (by have := HKD.out; omega) (by have := HKD.out; omega) (by have := HKD.out; omega) HAR.out (Or.inl HKD.out) HR2.out, (HB2.out.setCell (p := ⟨w1.heap.size, 1, none⟩) (by show w.heap.size ≤ w1.heap.size; exact HB1.out.size) _)⟩
      by_cases k8 : t.kind = 8
      · have HKD := Lib.hid k8
        have e1 : (t.kind == 1) = false := by simp [k8]
        have e8 : (t.kind == 8) = true := by simp [k8]
        clear k1
        clear k8
        go_wp2_with fail
        refine (HNM.out _).mono ?_
        rintro e w2 ⟨r2, hr2, rfl, hb2⟩
        have HR2 := Lib.hid hr2
        clear hr2
        have HB2 := Lib.hid (HBN.out.trans (hb2.mono HBN.out.size))
        have HX2 := Lib.hid (HXN.out.keep hb2)
        have HK2 := Lib.hid ((hb2.block _ (Array.getElem?_eq_some_iff.1 HKN.out).1).trans HKN.out)
        clear hb2 g0 g1 g2 g3 g4 g5 g6 g7 g8
        obtain ⟨g0, g1, g2, g3, g4, g5, g6, g7, g8⟩ := HX2.out
        have c1 := cell_of_blk HK2.out 1
        have cz := unfrozen_of_blk HK2.out
        go_wp2_with fail
        go_meet
        exact ⟨_, (.mk t.kind ⟨#[]⟩ t.other t.n t.ty t.res t.args), tp, tc, rp, rc, rfl, Bx9.of (by rw [Go.Joins.block_setCell HK2.out _]; rfl), clear_name (by have := HKD.out; omega) (by have := HKD.out; omega) (by have := HKD.out; omega) HAR.out (Or.inr HKD.out) HR2.out, (HB2.out.setCell (p := ⟨w1.heap.size, 1, none⟩) (by show w.heap.size ≤ w1.heap.size; exact HB1.out.size) _)⟩
      by_cases k2 : t.kind = 2
      · have HKD := Lib.hid k2
        have e1 : (t.kind == 1) = false := by simp [k2]
        have e8 : (t.kind == 8) = false := by simp [k2]
        have e2 : (t.kind == 2) = true := by simp [k2]
        clear k1 k8
        clear k2
        have c3 := cell_of_blk HKN.out 3
        have cz := unfrozen_of_blk HKN.out
        have HRD := Lib.hid (redI_any t.n)
        go_wp2_with fail
        go_region_held3 (fun w' => w'.cell? ⟨w.heap.size, 3, none⟩ = some (.int .i64 t.n) ∧ w'.heap[w1.heap.size]? = some (.cells (tmC t tp tc rp rc p c) 29 (0, 0)) ∧ Below w.heap.size w w')
          (first
            | (go_keep; done)
            | exact ⟨g3, HKN.out, HBN.out.drew⟩
            | assumption)
          (first
            | (go_at_call 91; refine (HRD.out _).mono ?_; rintro e w5 ⟨rfl, rfl⟩))
        rename_i hH
        clear hH
        go_wp2_with fail
        go_meet
        exact ⟨_, (.mk t.kind t.name t.other 0 t.ty t.res t.args), tp, tc, rp, rc, rfl, Bx9.of (blk_new w1 _), clear_num (by have := HKD.out; omega) (by have := HKD.out; omega) (by have := HKD.out; omega) HAR.out (by rw [beq_iff_eq, Tm.most, if_pos HKD.out]; omega), (HB1.out.trans ((al_below w1 _).mono HB1.out.size)).drew⟩
      by_cases k3 : t.kind = 3
      · have HKD := Lib.hid k3
        have e1 : (t.kind == 1) = false := by simp [k3]
        have e8 : (t.kind == 8) = false := by simp [k3]
        have e2 : (t.kind == 2) = false := by simp [k3]
        have e3 : (t.kind == 3) = true := by simp [k3]
        clear k1 k8 k2
        clear k3
        have c3 := cell_of_blk HKN.out 3
        have cz := unfrozen_of_blk HKN.out
        by_cases z0 : t.n = 0
        · have z1 : (t.n == 0) = true := by simp [z0]
          have HZ := Lib.hid z0
          clear z0
          go_wp2_with fail
          go_meet
          exact ⟨_, (.mk t.kind t.name t.other 0 t.ty t.res t.args), tp, tc, rp, rc, rfl, Bx9.of (blk_new w1 _), clear_num (by have := HKD.out; omega) (by have := HKD.out; omega) (by have := HKD.out; omega) HAR.out (by rw [Tm.most, if_neg (by have := HKD.out; omega), if_pos HKD.out]; have := HZ.out; simp only [true_iff]; omega), (HB1.out.trans ((al_below w1 _).mono HB1.out.size))⟩
        · have z1 : (t.n == 0) = false := by simp [z0]
          have HZ := Lib.hid z0
          clear z0
          go_wp2_with fail
          go_meet
          exact ⟨_, (.mk t.kind t.name t.other 0 t.ty t.res t.args), tp, tc, rp, rc, rfl, Bx9.of (blk_new w1 _), clear_num (by have := HKD.out; omega) (by have := HKD.out; omega) (by have := HKD.out; omega) HAR.out (by rw [Tm.most, if_neg (by have := HKD.out; omega), if_pos HKD.out]; have := HZ.out; rw [beq_iff_eq]; omega), (HB1.out.trans ((al_below w1 _).mono HB1.out.size))⟩
      by_cases k4 : t.kind = 4
      · have HKD := Lib.hid k4
        have e1 : (t.kind == 1) = false := by simp [k4]
        have e8 : (t.kind == 8) = false := by simp [k4]
        have e2 : (t.kind == 2) = false := by simp [k4]
        have e3 : (t.kind == 3) = false := by simp [k4]
        have e4 : (t.kind == 4) = true := by simp [k4]
        clear k1 k8 k2 k3
        clear k4
        have c1 := cell_of_blk HKN.out 1
        have cz := unfrozen_of_blk HKN.out
        go_wp2_with fail
        go_meet
        exact ⟨_, (.mk t.kind ⟨#[]⟩ t.other t.n t.ty t.res t.args), tp, tc, rp, rc, rfl, Bx9.of (blk_new w1 _), clear_op HKD.out HAR.out, (HB1.out.trans ((al_below w1 _).mono HB1.out.size))⟩
      by_cases k6 : t.kind = 6
      · have HKD := Lib.hid k6
        have e1 : (t.kind == 1) = false := by simp [k6]
        have e8 : (t.kind == 8) = false := by simp [k6]
        have e2 : (t.kind == 2) = false := by simp [k6]
        have e3 : (t.kind == 3) = false := by simp [k6]
        have e4 : (t.kind == 4) = false := by simp [k6]
        have e6 : (t.kind == 6) = true := by simp [k6]
        clear k1 k8 k2 k3 k4
        clear k6
        go_wp2_with fail
        refine (HNM.out _).mono ?_
        rintro e w2 ⟨r2, hr2, rfl, hb2⟩
        have HR2 := Lib.hid hr2
        clear hr2
        have HB2 := Lib.hid (HBN.out.trans (hb2.mono HBN.out.size))
        have HX2 := Lib.hid (HXN.out.keep hb2)
        have HK2 := Lib.hid ((hb2.block _ (Array.getElem?_eq_some_iff.1 HKN.out).1).trans HKN.out)
        clear hb2 g0 g1 g2 g3 g4 g5 g6 g7 g8
        obtain ⟨g0, g1, g2, g3, g4, g5, g6, g7, g8⟩ := HX2.out
        have c1 := cell_of_blk HK2.out 1
        have c4 := cell_of_blk HK2.out 4
        have c5 := cell_of_blk HK2.out 5
        have cz := unfrozen_of_blk HK2.out
        cases r2 with
        | false =>
          go_wp2_with fail
          go_meet
          exact ⟨_, (.mk t.kind ⟨#[]⟩ t.other t.n (.mk 0 []) t.res t.args), none, 0, rp, rc, rfl, Bx9.of (by rw [Go.Joins.block_setCell (Go.Joins.block_setCell (Go.Joins.block_setCell HK2.out _) _) _]; rfl), clear_six HKD.out HAR.out ⟨fun h => (by cases h), fun h => absurd (HR2.out.2 h.1) (by decide)⟩, (((HB2.out.setCell (p := ⟨w1.heap.size, 1, none⟩) (by show w.heap.size ≤ w1.heap.size; exact HB1.out.size) _).setCell (p := ⟨w1.heap.size, 4, none⟩) (by show w.heap.size ≤ w1.heap.size; exact HB1.out.size) _).setCell (p := ⟨w1.heap.size, 5, none⟩) (by show w.heap.size ≤ w1.heap.size; exact HB1.out.size) _)⟩
        | true =>
          clear c1 c4 c5 cz
          go_wp2_with fail
          refine (HVT.out _ HB2.out).mono ?_
          rintro e w3 ⟨r3, hr3, rfl, hb3⟩
          have HR3 := Lib.hid hr3
          clear hr3
          have HB3 := Lib.hid (HB2.out.trans (hb3.mono HB2.out.size))
          have HX3 := Lib.hid (HX2.out.keep hb3)
          have HK3 := Lib.hid ((hb3.block _ (Array.getElem?_eq_some_iff.1 HK2.out).1).trans HK2.out)
          clear hb3 g0 g1 g2 g3 g4 g5 g6 g7 g8
          obtain ⟨g0, g1, g2, g3, g4, g5, g6, g7, g8⟩ := HX3.out
          have c1 := cell_of_blk HK3.out 1
          have c4 := cell_of_blk HK3.out 4
          have c5 := cell_of_blk HK3.out 5
          have cz := unfrozen_of_blk HK3.out
          go_wp2_with fail
          go_meet
          exact ⟨_, (.mk t.kind ⟨#[]⟩ t.other t.n (.mk 0 []) t.res t.args), none, 0, rp, rc, rfl, Bx9.of (by rw [Go.Joins.block_setCell (Go.Joins.block_setCell (Go.Joins.block_setCell HK3.out _) _) _]; rfl), clear_six HKD.out HAR.out (by rw [HR3.out]; exact ⟨fun h => ⟨HR2.out.1 (by trivial), h⟩, fun h => h.2⟩), (((HB3.out.setCell (p := ⟨w1.heap.size, 1, none⟩) (by show w.heap.size ≤ w1.heap.size; exact HB1.out.size) _).setCell (p := ⟨w1.heap.size, 4, none⟩) (by show w.heap.size ≤ w1.heap.size; exact HB1.out.size) _).setCell (p := ⟨w1.heap.size, 5, none⟩) (by show w.heap.size ≤ w1.heap.size; exact HB1.out.size) _)⟩
      by_cases k9 : t.kind = 9
      · have HKD := Lib.hid k9
        have e1 : (t.kind == 1) = false := by simp [k9]
        have e8 : (t.kind == 8) = false := by simp [k9]
        have e2 : (t.kind == 2) = false := by simp [k9]
        have e3 : (t.kind == 3) = false := by simp [k9]
        have e4 : (t.kind == 4) = false := by simp [k9]
        have e6 : (t.kind == 6) = false := by simp [k9]
        have e9 : (t.kind == 9) = true := by simp [k9]
        clear k1 k8 k2 k3 k4 k6
        clear k9
        go_wp2_with fail
        refine (HNM.out _).mono ?_
        rintro e w2 ⟨r2, hr2, rfl, hb2⟩
        have HR2 := Lib.hid hr2
        clear hr2
        have HB2 := Lib.hid (HBN.out.trans (hb2.mono HBN.out.size))
        have HX2 := Lib.hid (HXN.out.keep hb2)
        have HK2 := Lib.hid ((hb2.block _ (Array.getElem?_eq_some_iff.1 HKN.out).1).trans HKN.out)
        clear hb2 g0 g1 g2 g3 g4 g5 g6 g7 g8
        obtain ⟨g0, g1, g2, g3, g4, g5, g6, g7, g8⟩ := HX2.out
        cases r2 with
        | false =>
          have c1 := cell_of_blk HK2.out 1
          have c2 := cell_of_blk HK2.out 2
          have c4 := cell_of_blk HK2.out 4
          have c5 := cell_of_blk HK2.out 5
          have c6 := cell_of_blk HK2.out 6
          have c7 := cell_of_blk HK2.out 7
          have cz := unfrozen_of_blk HK2.out
          go_wp2_with fail
          go_meet
          exact ⟨_, (.mk t.kind ⟨#[]⟩ ⟨#[]⟩ t.n (.mk 0 []) (.mk 0 []) t.args), none, 0, none, 0, rfl, Bx9.of (by rw [Go.Joins.block_setCell (Go.Joins.block_setCell (Go.Joins.block_setCell (Go.Joins.block_setCell (Go.Joins.block_setCell (Go.Joins.block_setCell HK2.out _) _) _) _) _) _]; rfl), clear_nine HKD.out HAR.out ⟨fun h => (by cases h), fun h => absurd (HR2.out.2 h.1) (by decide)⟩, ((((((HB2.out.setCell (p := ⟨w1.heap.size, 1, none⟩) (by show w.heap.size ≤ w1.heap.size; exact HB1.out.size) _).setCell (p := ⟨w1.heap.size, 2, none⟩) (by show w.heap.size ≤ w1.heap.size; exact HB1.out.size) _).setCell (p := ⟨w1.heap.size, 4, none⟩) (by show w.heap.size ≤ w1.heap.size; exact HB1.out.size) _).setCell (p := ⟨w1.heap.size, 5, none⟩) (by show w.heap.size ≤ w1.heap.size; exact HB1.out.size) _).setCell (p := ⟨w1.heap.size, 6, none⟩) (by show w.heap.size ≤ w1.heap.size; exact HB1.out.size) _).setCell (p := ⟨w1.heap.size, 7, none⟩) (by show w.heap.size ≤ w1.heap.size; exact HB1.out.size) _)⟩
        | true =>
          go_wp2_with fail
          refine (HNO.out _).mono ?_
          rintro e w3 ⟨r3, hr3, rfl, hb3⟩
          have HR3 := Lib.hid hr3
          clear hr3
          have HB3 := Lib.hid (HB2.out.trans (hb3.mono HB2.out.size))
          have HX3 := Lib.hid (HX2.out.keep hb3)
          have HK3 := Lib.hid ((hb3.block _ (Array.getElem?_eq_some_iff.1 HK2.out).1).trans HK2.out)
          clear hb3 g0 g1 g2 g3 g4 g5 g6 g7 g8
          obtain ⟨g0, g1, g2, g3, g4, g5, g6, g7, g8⟩ := HX3.out
          cases r3 with
          | false =>
            have c1 := cell_of_blk HK3.out 1
            have c2 := cell_of_blk HK3.out 2
            have c4 := cell_of_blk HK3.out 4
            have c5 := cell_of_blk HK3.out 5
            have c6 := cell_of_blk HK3.out 6
            have c7 := cell_of_blk HK3.out 7
            have cz := unfrozen_of_blk HK3.out
            go_wp2_with fail
            go_meet
            exact ⟨_, (.mk t.kind ⟨#[]⟩ ⟨#[]⟩ t.n (.mk 0 []) (.mk 0 []) t.args), none, 0, none, 0, rfl, Bx9.of (by rw [Go.Joins.block_setCell (Go.Joins.block_setCell (Go.Joins.block_setCell (Go.Joins.block_setCell (Go.Joins.block_setCell (Go.Joins.block_setCell HK3.out _) _) _) _) _) _]; rfl), clear_nine HKD.out HAR.out ⟨fun h => (by cases h), fun h => absurd (HR3.out.2 h.2.1) (by decide)⟩, ((((((HB3.out.setCell (p := ⟨w1.heap.size, 1, none⟩) (by show w.heap.size ≤ w1.heap.size; exact HB1.out.size) _).setCell (p := ⟨w1.heap.size, 2, none⟩) (by show w.heap.size ≤ w1.heap.size; exact HB1.out.size) _).setCell (p := ⟨w1.heap.size, 4, none⟩) (by show w.heap.size ≤ w1.heap.size; exact HB1.out.size) _).setCell (p := ⟨w1.heap.size, 5, none⟩) (by show w.heap.size ≤ w1.heap.size; exact HB1.out.size) _).setCell (p := ⟨w1.heap.size, 6, none⟩) (by show w.heap.size ≤ w1.heap.size; exact HB1.out.size) _).setCell (p := ⟨w1.heap.size, 7, none⟩) (by show w.heap.size ≤ w1.heap.size; exact HB1.out.size) _)⟩
          | true =>
            by_cases hq : t.name = t.other
            · have hq1 := str_yes hq
              have HQ := Lib.hid hq
              clear hq
              have c1 := cell_of_blk HK3.out 1
              have c2 := cell_of_blk HK3.out 2
              have c4 := cell_of_blk HK3.out 4
              have c5 := cell_of_blk HK3.out 5
              have c6 := cell_of_blk HK3.out 6
              have c7 := cell_of_blk HK3.out 7
              have cz := unfrozen_of_blk HK3.out
              go_wp2_with fail
              go_meet
              exact ⟨_, (.mk t.kind ⟨#[]⟩ ⟨#[]⟩ t.n (.mk 0 []) (.mk 0 []) t.args), none, 0, none, 0, rfl, Bx9.of (by rw [Go.Joins.block_setCell (Go.Joins.block_setCell (Go.Joins.block_setCell (Go.Joins.block_setCell (Go.Joins.block_setCell (Go.Joins.block_setCell HK3.out _) _) _) _) _) _]; rfl), clear_nine HKD.out HAR.out ⟨fun h => (by cases h), fun h => absurd HQ.out h.2.2.1⟩, ((((((HB3.out.setCell (p := ⟨w1.heap.size, 1, none⟩) (by show w.heap.size ≤ w1.heap.size; exact HB1.out.size) _).setCell (p := ⟨w1.heap.size, 2, none⟩) (by show w.heap.size ≤ w1.heap.size; exact HB1.out.size) _).setCell (p := ⟨w1.heap.size, 4, none⟩) (by show w.heap.size ≤ w1.heap.size; exact HB1.out.size) _).setCell (p := ⟨w1.heap.size, 5, none⟩) (by show w.heap.size ≤ w1.heap.size; exact HB1.out.size) _).setCell (p := ⟨w1.heap.size, 6, none⟩) (by show w.heap.size ≤ w1.heap.size; exact HB1.out.size) _).setCell (p := ⟨w1.heap.size, 7, none⟩) (by show w.heap.size ≤ w1.heap.size; exact HB1.out.size) _)⟩
            · have hq1 := str_no hq
              have HQ := Lib.hid hq
              clear hq
              go_wp2_with fail
              refine (HVT.out _ HB3.out).mono ?_
              rintro e w4 ⟨r4, hr4, rfl, hb4⟩
              have HR4 := Lib.hid hr4
              clear hr4
              have HB4 := Lib.hid (HB3.out.trans (hb4.mono HB3.out.size))
              have HX4 := Lib.hid (HX3.out.keep hb4)
              have HK4 := Lib.hid ((hb4.block _ (Array.getElem?_eq_some_iff.1 HK3.out).1).trans HK3.out)
              clear hb4 g0 g1 g2 g3 g4 g5 g6 g7 g8
              obtain ⟨g0, g1, g2, g3, g4, g5, g6, g7, g8⟩ := HX4.out
              cases r4 with
              | false =>
                have c1 := cell_of_blk HK4.out 1
                have c2 := cell_of_blk HK4.out 2
                have c4 := cell_of_blk HK4.out 4
                have c5 := cell_of_blk HK4.out 5
                have c6 := cell_of_blk HK4.out 6
                have c7 := cell_of_blk HK4.out 7
                have cz := unfrozen_of_blk HK4.out
                go_wp2_with fail
                go_meet
                exact ⟨_, (.mk t.kind ⟨#[]⟩ ⟨#[]⟩ t.n (.mk 0 []) (.mk 0 []) t.args), none, 0, none, 0, rfl, Bx9.of (by rw [Go.Joins.block_setCell (Go.Joins.block_setCell (Go.Joins.block_setCell (Go.Joins.block_setCell (Go.Joins.block_setCell (Go.Joins.block_setCell HK4.out _) _) _) _) _) _]; rfl), clear_nine HKD.out HAR.out ⟨fun h => (by cases h), fun h => absurd (HR4.out.trans h.2.2.2.1) (by decide)⟩, ((((((HB4.out.setCell (p := ⟨w1.heap.size, 1, none⟩) (by show w.heap.size ≤ w1.heap.size; exact HB1.out.size) _).setCell (p := ⟨w1.heap.size, 2, none⟩) (by show w.heap.size ≤ w1.heap.size; exact HB1.out.size) _).setCell (p := ⟨w1.heap.size, 4, none⟩) (by show w.heap.size ≤ w1.heap.size; exact HB1.out.size) _).setCell (p := ⟨w1.heap.size, 5, none⟩) (by show w.heap.size ≤ w1.heap.size; exact HB1.out.size) _).setCell (p := ⟨w1.heap.size, 6, none⟩) (by show w.heap.size ≤ w1.heap.size; exact HB1.out.size) _).setCell (p := ⟨w1.heap.size, 7, none⟩) (by show w.heap.size ≤ w1.heap.size; exact HB1.out.size) _)⟩
              | true =>
                go_wp2_with fail
                refine (HVR.out _ HB4.out).mono ?_
                rintro e w5 ⟨r5, hr5, rfl, hb5⟩
                have HR5 := Lib.hid hr5
                clear hr5
                have HB5 := Lib.hid (HB4.out.trans (hb5.mono HB4.out.size))
                have HX5 := Lib.hid (HX4.out.keep hb5)
                have HK5 := Lib.hid ((hb5.block _ (Array.getElem?_eq_some_iff.1 HK4.out).1).trans HK4.out)
                clear hb5 g0 g1 g2 g3 g4 g5 g6 g7 g8
                obtain ⟨g0, g1, g2, g3, g4, g5, g6, g7, g8⟩ := HX5.out
                have c1 := cell_of_blk HK5.out 1
                have c2 := cell_of_blk HK5.out 2
                have c4 := cell_of_blk HK5.out 4
                have c5 := cell_of_blk HK5.out 5
                have c6 := cell_of_blk HK5.out 6
                have c7 := cell_of_blk HK5.out 7
                have cz := unfrozen_of_blk HK5.out
                go_wp2_with fail
                go_meet
                exact ⟨_, (.mk t.kind ⟨#[]⟩ ⟨#[]⟩ t.n (.mk 0 []) (.mk 0 []) t.args), none, 0, none, 0, rfl, Bx9.of (by rw [Go.Joins.block_setCell (Go.Joins.block_setCell (Go.Joins.block_setCell (Go.Joins.block_setCell (Go.Joins.block_setCell (Go.Joins.block_setCell HK5.out _) _) _) _) _) _]; rfl), clear_nine HKD.out HAR.out (by rw [HR5.out]; exact ⟨fun h => ⟨HR2.out.1 (by trivial), HR3.out.1 (by trivial), HQ.out, HR4.out.symm, h⟩, fun h => h.2.2.2.2⟩), ((((((HB5.out.setCell (p := ⟨w1.heap.size, 1, none⟩) (by show w.heap.size ≤ w1.heap.size; exact HB1.out.size) _).setCell (p := ⟨w1.heap.size, 2, none⟩) (by show w.heap.size ≤ w1.heap.size; exact HB1.out.size) _).setCell (p := ⟨w1.heap.size, 4, none⟩) (by show w.heap.size ≤ w1.heap.size; exact HB1.out.size) _).setCell (p := ⟨w1.heap.size, 5, none⟩) (by show w.heap.size ≤ w1.heap.size; exact HB1.out.size) _).setCell (p := ⟨w1.heap.size, 6, none⟩) (by show w.heap.size ≤ w1.heap.size; exact HB1.out.size) _).setCell (p := ⟨w1.heap.size, 7, none⟩) (by show w.heap.size ≤ w1.heap.size; exact HB1.out.size) _)⟩
      have e1 : (t.kind == 1) = false := by simp [k1]
      have e8 : (t.kind == 8) = false := by simp [k8]
      have e2 : (t.kind == 2) = false := by simp [k2]
      have e3 : (t.kind == 3) = false := by simp [k3]
      have e4 : (t.kind == 4) = false := by simp [k4]
      have e6 : (t.kind == 6) = false := by simp [k6]
      have e9 : (t.kind == 9) = false := by simp [k9]
      have HKO := Lib.hid (And.intro k4 (And.intro (show ¬ (t.kind = 1 ∨ t.kind = 6 ∨ t.kind = 8) by omega) (And.intro k9 (And.intro k2 k3))))
      clear k1 k8 k2 k3 k4 k6 k9
      go_wp2_with fail
      go_meet
      exact ⟨_, t, tp, tc, rp, rc, rfl, Bx9.of HKN.out, (by have := clear_oth HKO.out.1 HKO.out.2.1 HKO.out.2.2.1 HKO.out.2.2.2.1 HKO.out.2.2.2.2 HAR.out; rwa [← t.eta] at this), HBN.out⟩
    case rest =>
      obtain ⟨pr, u, tp', tc', rp', rc', rfl, hx, hiff, hbx⟩ := hcut
      have HI := Lib.hid hiff
      have HBX := Lib.hid hbx
      have HXU := Lib.hid hx
      clear hiff hbx hx g0 g1 g2 g3 g4 g5 g6 g7 g8
      obtain ⟨d0, d1, d2, d3, d4, d5, d6, d7, d8⟩ := HXU.out
      cases pr with
      | false =>
        go_wp2_with fail
        go_ret
        exact ⟨_, lit_f (fun h => by have := (HI.out.2 h).1; cases this), rfl, HBX.out⟩
      | true =>
        by_cases z1 : u.name.toList = []
        case neg =>
          have q1 : (u.name.toList == []) = false := by simpa using z1
          have HZ1 := Lib.hid z1
          clear z1
          go_wp2_with fail
          go_ret
          exact ⟨_, lit_f (fun h => HZ1.out (HI.out.2 h).2.1), rfl, HBX.out⟩
        have q1 : (u.name.toList == []) = true := by simpa using z1
        have HZ1 := Lib.hid z1
        clear z1
        by_cases z2 : u.other.toList = []
        case neg =>
          have q2 : (u.other.toList == []) = false := by simpa using z2
          have HZ2 := Lib.hid z2
          clear z2
          go_wp2_with fail
          go_ret
          exact ⟨_, lit_f (fun h => HZ2.out (HI.out.2 h).2.2.1), rfl, HBX.out⟩
        have q2 : (u.other.toList == []) = true := by simpa using z2
        have HZ2 := Lib.hid z2
        clear z2
        by_cases z3 : u.n = 0
        case neg =>
          have q3 : (u.n == 0) = false := by simpa using z3
          have HZ3 := Lib.hid z3
          clear z3
          go_wp2_with fail
          go_ret
          exact ⟨_, lit_f (fun h => HZ3.out (HI.out.2 h).2.2.2.1), rfl, HBX.out⟩
        have q3 : (u.n == 0) = true := by simpa using z3
        have HZ3 := Lib.hid z3
        clear z3
        go_wp2_with fail
        refine (zeroI_any _ _ _ _ _).mono ?_
        rintro e w8 ⟨r8, hr8, rfl, hb8⟩
        have HR8 := Lib.hid hr8
        have HB8 := Lib.hid (HBX.out.trans (hb8.mono HBX.out.size))
        clear hr8 d0 d1 d2 d3 d4 d5 d6 d7 d8
        obtain ⟨d0, d1, d2, d3, d4, d5, d6, d7, d8⟩ := HXU.out.keep hb8
        clear hb8
        cases r8 with
        | false =>
          go_wp2_with fail
          go_ret
          exact ⟨_, lit_f (fun h => by have := HR8.out.2 (HI.out.2 h).2.2.2.2.1; cases this), rfl, HB8.out⟩
        | true =>
          go_wp2_with fail
          refine (zeroI_any _ _ _ _ _).mono ?_
          rintro e w9 ⟨r9, hr9, rfl, hb9⟩
          have HR9 := Lib.hid hr9
          have HB9 := Lib.hid (HB8.out.trans (hb9.mono HB8.out.size))
          clear hr9 hb9 d0 d1 d2 d3 d4 d5 d6 d7 d8
          go_wp2_with fail
          go_ret
          exact ⟨_, ⟨fun h => HI.out.1 ⟨by trivial, HZ1.out, HZ2.out, HZ3.out, HR8.out.1 (by trivial), HR9.out.1 h⟩, fun h => HR9.out.2 (HI.out.2 h).2.2.2.2.2⟩, rfl, HB9.out⟩
end Go.Proofs.YtjobmgbchpoheaaGreatDoor
