/-
  Several texts of the proof in one (each says below what it holds): FormI WithinM IsTermI RangeD NodesD LvI RegR.
-/
import Derived.Test.YtingnigiijdllaaDoorCq7
import Derived.Test.YtingnigiijdllaaDoorCq3
import Derived.Test.YtingnigiijdllaaDoorCq4
import Derived.Test.YtingnigiijdllaaDoorCq1
import Derived.Deep.CutRange
import Derived.Deep.CutBlock
import Derived.Deep.RegionHeld3
import Derived.Lib.SmallJoins
import Derived.OrdersIn
import Derived.RangeFuncCalls
import Derived.OwnWalkIn
set_option linter.unusedVariables false
set_option linter.unusedSimpArgs false
namespace Go.Proofs.YtingnigiijdllaaDoor
open Go Go.RowKit

theorem Tm.NodeOk.ar {t : Tm} (h : t.NodeOk) : t.arOk := ⟨h.2, fun k => by
  have h1 := h.2
  have h2 := (names_4 k).1 h.1.names
  rw [Tm.arity, k] at h1
  simp only [arK] at h1
  have h3 : (arK 4 (opAr t.name.toList)) = opAr t.name.toList := by simp [arK]
  omega⟩
theorem node_fields {t : Tm} (ha : t.arOk) : t.NodeOk ↔ t.FieldsOk := ⟨fun h => h.1, fun h => ⟨h, ha.1⟩⟩
theorem zero_valid {t : Ty} (h : zeroT t) : ¬ t.valid = true := fun e => by
  have h1 := ((valid_walk t).1 e).1 (t, 1) (by rw [walkT_eq]; simp)
  have h2 := (okK_kind t).1 h1.1
  have h3 := h.1
  omega
theorem fo_plain {t : Tm} (h6 : ¬ t.kind = 6) (h9 : ¬ t.kind = 9) : t.FieldsOk ↔ zeroT t.ty ∧ zeroT t.res ∧ (0 ≤ t.n ∧ t.n ≤ t.most) ∧ t.namesOk :=
  ⟨fun h => ⟨h.ty2.elim (fun e => (e.elim h6 h9).elim) id, h.res2.elim (fun e => (h9 e).elim) id, h.n, h.names⟩,
   fun h => ⟨⟨fun e => (e.elim h6 h9).elim, fun e => (zero_valid h.1 e).elim⟩, Or.inr h.1, ⟨fun e => (h9 e).elim, fun e => (zero_valid h.2.1 e).elim⟩, Or.inr h.2.1, h.2.2.1, h.2.2.2⟩⟩
theorem fo_six {t : Tm} (k : t.kind = 6) : t.FieldsOk ↔ t.ty.valid = true ∧ zeroT t.res ∧ (0 ≤ t.n ∧ t.n ≤ t.most) ∧ t.namesOk :=
  have h9 : ¬ t.kind = 9 := by omega
  ⟨fun h => ⟨h.ty1.1 (Or.inl k), h.res2.elim (fun e => (h9 e).elim) id, h.n, h.names⟩,
   fun h => ⟨⟨fun _ => h.1, fun _ => Or.inl k⟩, Or.inl (Or.inl k), ⟨fun e => (h9 e).elim, fun e => (zero_valid h.2.1 e).elim⟩, Or.inr h.2.1, h.2.2.1, h.2.2.2⟩⟩
theorem fo_nine {t : Tm} (k : t.kind = 9) : t.FieldsOk ↔ t.ty.valid = true ∧ t.res.valid = true ∧ (0 ≤ t.n ∧ t.n ≤ t.most) ∧ t.namesOk :=
  ⟨fun h => ⟨h.ty1.1 (Or.inr k), h.res1.1 k, h.n, h.names⟩,
   fun h => ⟨⟨fun _ => h.1, fun _ => Or.inr k⟩, Or.inl (Or.inr k), ⟨fun _ => h.2.1, fun _ => k⟩, Or.inl k, h.2.2.1, h.2.2.2⟩⟩
theorem emp_list : (⟨#[]⟩ : ByteArray).toList = [] := nil_size rfl
def Tm.Clear (u : Tm) : Prop := u.name.toList = [] ∧ u.other.toList = [] ∧ u.n = 0 ∧ zeroT u.ty ∧ zeroT u.res

theorem clear_name {t : Tm} (h6 : ¬ t.kind = 6) (h9 : ¬ t.kind = 9) (h4 : ¬ t.kind = 4) (ha : t.arOk) (h2 : t.kind = 1 ∨ t.kind = 8) {r : Bool} (hr : r = true ↔ Nm t.name) :
    (r = true ∧ (Tm.mk t.kind ⟨#[]⟩ t.other t.n t.ty t.res t.args).Clear) ↔ t.NodeOk := by
  rw [node_fields ha, fo_plain h6 h9, names_1 h4 (by omega), hr, show t.most = 0 from by unfold Tm.most; rw [if_neg (by omega), if_neg (by omega)]]
  constructor
  · rintro ⟨a, b, c, d, e, f⟩
    exact ⟨e, f, ⟨by show 0 ≤ t.n; have : t.n = 0 := d; omega, by have : t.n = 0 := d; omega⟩, a, c⟩
  · rintro ⟨a, b, c, d, e⟩
    exact ⟨d, emp_list, e, by show t.n = 0; omega, a, b⟩
theorem clear_num {t : Tm} (h4 : ¬ t.kind = 4) (h1 : ¬ (t.kind = 1 ∨ t.kind = 6 ∨ t.kind = 8)) (h9 : ¬ t.kind = 9) (ha : t.arOk) {r : Bool} (hr : r = true ↔ 0 ≤ t.n ∧ t.n ≤ t.most) :
    (r = true ∧ (Tm.mk t.kind t.name t.other 0 t.ty t.res t.args).Clear) ↔ t.NodeOk := by
  rw [node_fields ha, fo_plain (fun e => h1 (Or.inr (Or.inl e))) h9, names_0 h4 h1 h9, hr]
  constructor
  · rintro ⟨a, b, c, d, e, f⟩
    exact ⟨e, f, a, b, c⟩
  · rintro ⟨a, b, c, d, e⟩
    exact ⟨c, d, e, rfl, a, b⟩
theorem clear_op {t : Tm} (h4 : t.kind = 4) (ha : t.arOk) :
    (true = true ∧ (Tm.mk t.kind ⟨#[]⟩ t.other t.n t.ty t.res t.args).Clear) ↔ t.NodeOk := by
  have hp : 0 < opAr t.name.toList := by
    have h1 := ha.1
    have h2 := ha.2 h4
    rw [Tm.arity, h4] at h1
    have h3 : (arK 4 (opAr t.name.toList)) = opAr t.name.toList := by simp [arK]
    omega
  rw [node_fields ha, fo_plain (by omega) (by omega), names_4 h4, show t.most = 0 from by unfold Tm.most; rw [if_neg (by omega), if_neg (by omega)]]
  constructor
  · rintro ⟨-, b, c, d, e, f⟩
    exact ⟨e, f, ⟨by show 0 ≤ t.n; have : t.n = 0 := d; omega, by have : t.n = 0 := d; omega⟩, hp, c⟩
  · rintro ⟨a, b, c, d, e⟩
    exact ⟨rfl, emp_list, e, by show t.n = 0; omega, a, b⟩
theorem clear_six {t : Tm} (k : t.kind = 6) (ha : t.arOk) {r : Bool} (hr : r = true ↔ Nm t.name ∧ t.ty.valid = true) :
    (r = true ∧ (Tm.mk t.kind ⟨#[]⟩ t.other t.n (.mk 0 []) t.res t.args).Clear) ↔ t.NodeOk := by
  rw [node_fields ha, fo_six k, names_1 (by omega) (by omega), hr, show t.most = 0 from by unfold Tm.most; rw [if_neg (by omega), if_neg (by omega)]]
  constructor
  · rintro ⟨⟨a, a2⟩, b, c, d, e, f⟩
    exact ⟨a2, f, ⟨by show 0 ≤ t.n; have : t.n = 0 := d; omega, by have : t.n = 0 := d; omega⟩, a, c⟩
  · rintro ⟨a, b, c, d, e⟩
    exact ⟨⟨d, a⟩, emp_list, e, by show t.n = 0; omega, ⟨rfl, rfl⟩, b⟩
theorem clear_nine {t : Tm} (k : t.kind = 9) (ha : t.arOk) {r : Bool} (hr : r = true ↔ Nm t.name ∧ Nm t.other ∧ t.name ≠ t.other ∧ t.ty.valid = true ∧ t.res.valid = true) :
    (r = true ∧ (Tm.mk t.kind ⟨#[]⟩ ⟨#[]⟩ t.n (.mk 0 []) (.mk 0 []) t.args).Clear) ↔ t.NodeOk := by
  rw [node_fields ha, fo_nine k, names_9 (by omega) (by omega) k, hr, show t.most = 0 from by unfold Tm.most; rw [if_neg (by omega), if_neg (by omega)]]
  constructor
  · rintro ⟨⟨a1, a2, a3, a4, a5⟩, b, c, d, e, f⟩
    exact ⟨a4, a5, ⟨by show 0 ≤ t.n; have : t.n = 0 := d; omega, by have : t.n = 0 := d; omega⟩, a1, a2, a3⟩
  · rintro ⟨a, b, c, d1, d2, d3⟩
    exact ⟨⟨d1, d2, d3, a, b⟩, emp_list, emp_list, by show t.n = 0; omega, ⟨rfl, rfl⟩, ⟨rfl, rfl⟩⟩
theorem clear_oth {t : Tm} (h4 : ¬ t.kind = 4) (h1 : ¬ (t.kind = 1 ∨ t.kind = 6 ∨ t.kind = 8)) (h9 : ¬ t.kind = 9) (h2 : ¬ t.kind = 2) (h3 : ¬ t.kind = 3) (ha : t.arOk) :
    (true = true ∧ (Tm.mk t.kind t.name t.other t.n t.ty t.res t.args).Clear) ↔ t.NodeOk := by
  rw [node_fields ha, fo_plain (fun e => h1 (Or.inr (Or.inl e))) h9, names_0 h4 h1 h9, show t.most = 0 from by unfold Tm.most; rw [if_neg h2, if_neg h3]]
  constructor
  · rintro ⟨-, b, c, d, e, f⟩
    exact ⟨e, f, ⟨by show 0 ≤ t.n; have : t.n = 0 := d; omega, by have : t.n = 0 := d; omega⟩, b, c⟩
  · rintro ⟨a, b, c, d, e⟩
    exact ⟨rfl, d, e, by show t.n = 0; omega, a, b⟩

set_option maxRecDepth 100000 in
set_option maxHeartbeats 8000000 in
theorem formI_any {C : Nat → Prop} {t : Tm} {tp : Option Addr} {tc : Nat} {rp : Option Addr} {rc : Nat} {p : Option Addr} {c : Nat} (w : World) (hka : KA w) (hT : TM' w C t tp tc rp rc p c) (hn : t.wt ≤ 2097152) :
    Calls Tryd.prog 30 #[tmV t tp tc rp rc p c] w (Tells t.NodeOk w) := by
  have hb0 := al_below w (.cells (tmC t tp tc rp rc p c) 35)
  have HA := Lib.hid (hasAr_any t tp tc rp rc p c _ (hka.below hb0) hn)
  have HB := Lib.hid hb0
  have hwt := t.wt_eq
  have HNM := Lib.hid (fun W => nmI_any t.name W (by omega))
  have HNO := Lib.hid (fun W => nmI_any t.other W (by omega))
  have n1 : nodesS t.ty.args ≤ 2097152 := by omega
  have n2 : nodesS t.res.args ≤ 2097152 := by omega
  have HVT := Lib.hid (fun (W : World) (hW : Below w.heap.size w W) => validI_any (⟨_, rfl, hT.ty.keep hW⟩ : TT W C t.ty (.agg #[.int .i64 t.ty.kind, .slice tp t.ty.args.length tc])) n1)
  have HVR := Lib.hid (fun (W : World) (hW : Below w.heap.size w W) => validI_any (⟨_, rfl, hT.res.keep hW⟩ : TT W C t.res (.agg #[.int .i64 t.res.kind, .slice rp t.res.args.length rc])) n2)
  clear hka hb0 hwt n1 n2 hT hn
  have HX := Lib.hid (Bx9.new w t tp tc rp rc p c 35)
  go_enter Tryd.func30, Tryd.ntmps30
  go_wp2_with fail
  refine HA.out.mono ?_
  rintro e w1 ⟨r, hr, rfl, hb1⟩
  have HR := Lib.hid hr
  have HB1 := Lib.hid (HB.out.trans (hb1.mono HB.out.size))
  have HX1 := Lib.hid (HX.out.keep hb1)
  obtain ⟨g0, g1, g2, g3, g4, g5, g6, g7, g8⟩ := HX.out.keep hb1
  clear hr hb1 HA
  cases r with
  | false =>
    go_wp2_with fail
    go_ret
    exact ⟨_, lit_f (fun h => by have := HR.out.2 h.ar; cases this), rfl, HB1.out⟩
  | true =>
    have HAR := Lib.hid (HR.out.1 rfl)
    have hbn := al_below w1 (.cells (tmC t tp tc rp rc p c) 35)
    have HBN := Lib.hid (HB1.out.trans (hbn.mono HB1.out.size))
    have HXN := Lib.hid (HX1.out.keep hbn)
    have HNB := Lib.hid (blk_new w1 (.cells (tmC t tp tc rp rc p c) 35))
    have n0 : (w1.alloc (.cells #[.int .i64 t.kind, .string t.name, .string t.other, .int .i64 t.n, .int .i64 t.ty.kind, .slice tp t.ty.args.length tc, .int .i64 t.res.kind, .slice rp t.res.args.length rc, .slice p t.args.length c] 35)).cell? ⟨w.heap.size, 0, none⟩ = some (.int .i64 t.kind) := HXN.out.kind
    clear hbn
    go_upto_block 0 with fail
    go_cut [3] from 5 to 112 (fun s3 wx => ∃ (pr : Bool) (u : Tm) (tp' : Option Addr) (tc' : Nat) (rp' : Option Addr) (rc' : Nat), s3 = .bool pr ∧ Bx9 wx w1.heap.size u tp' tc' rp' rc' p c ∧ ((pr = true ∧ u.Clear) ↔ t.NodeOk) ∧ Below w.heap.size w wx)
    case first =>
      clear n0 g0 g1 g2 g3 g4 g5 g6 g7 g8
      obtain ⟨g0, g1, g2, g3, g4, g5, g6, g7, g8⟩ := HXN.out
      have HKN := Lib.hid HNB.out
      by_cases k1 : t.kind = 1
      · have HKD := Lib.hid k1
        have e1 : (t.kind == 1) = true := by simp [k1]
        clear k1
        go_wp2_with fail
        refine (HNM.out _).mono ?_
        rintro e w2 ⟨r2, hr2, rfl, hb2⟩
        have HR2 := Lib.hid hr2
        clear hr2
        have HB2 := Lib.hid (HBN.out.trans (hb2.mono HBN.out.size))
        have HX2 := Lib.hid (HXN.out.keep hb2)
        have HK2 := Lib.hid ((hb2.block _ (Array.getElem?_eq_some_iff.1 HKN.out).1).trans HKN.out)
        clear hb2 g0 g1 g2 g3 g4 g5 g6 g7 g8
        obtain ⟨g0, g1, g2, g3, g4, g5, g6, g7, g8⟩ := HX2.out
        have c1 := cell_of_blk HK2.out 1
        have cz := unfrozen_of_blk HK2.out
        go_wp2_with fail
        go_meet
        exact ⟨_, (.mk t.kind ⟨#[]⟩ t.other t.n t.ty t.res t.args), tp, tc, rp, rc, rfl, Bx9.of (by rw [Go.Joins.block_setCell HK2.out _]; rfl), clear_name (by have := HKD.out; omega) (by have := HKD.out; omega) (by have := HKD.out; omega) HAR.out (Or.inl HKD.out) HR2.out, (HB2.out.setCell (p := ⟨w1.heap.size, 1, none⟩) (by show w.heap.size ≤ w1.heap.size; exact HB1.out.size) _)⟩
      by_cases k8 : t.kind = 8
      · have HKD := Lib.hid k8
        have e1 : (t.kind == 1) = false := by simp [k8]
        have e8 : (t.kind == 8) = true := by simp [k8]
        clear k1
        clear k8
        go_wp2_with fail
        refine (HNM.out _).mono ?_
        rintro e w2 ⟨r2, hr2, rfl, hb2⟩
        have HR2 := Lib.hid hr2
        clear hr2
        have HB2 := Lib.hid (HBN.out.trans (hb2.mono HBN.out.size))
        have HX2 := Lib.hid (HXN.out.keep hb2)
        have HK2 := Lib.hid ((hb2.block _ (Array.getElem?_eq_some_iff.1 HKN.out).1).trans HKN.out)
        clear hb2 g0 g1 g2 g3 g4 g5 g6 g7 g8
        obtain ⟨g0, g1, g2, g3, g4, g5, g6, g7, g8⟩ := HX2.out
        have c1 := cell_of_blk HK2.out 1
        have cz := unfrozen_of_blk HK2.out
        go_wp2_with fail
        go_meet
        exact ⟨_, (.mk t.kind ⟨#[]⟩ t.other t.n t.ty t.res t.args), tp, tc, rp, rc, rfl, Bx9.of (by rw [Go.Joins.block_setCell HK2.out _]; rfl), clear_name (by have := HKD.out; omega) (by have := HKD.out; omega) (by have := HKD.out; omega) HAR.out (Or.inr HKD.out) HR2.out, (HB2.out.setCell (p := ⟨w1.heap.size, 1, none⟩) (by show w.heap.size ≤ w1.heap.size; exact HB1.out.size) _)⟩
      by_cases k2 : t.kind = 2
      · have HKD := Lib.hid k2
        have e1 : (t.kind == 1) = false := by simp [k2]
        have e8 : (t.kind == 8) = false := by simp [k2]
        have e2 : (t.kind == 2) = true := by simp [k2]
        clear k1 k8
        clear k2
        have c3 := cell_of_blk HKN.out 3
        have cz := unfrozen_of_blk HKN.out
        have HRD := Lib.hid (redI_any t.n)
        go_wp2_with fail
        go_region_held3 (fun w' => w'.cell? ⟨w.heap.size, 3, none⟩ = some (.int .i64 t.n) ∧ w'.heap[w1.heap.size]? = some (.cells (tmC t tp tc rp rc p c) 35 (0, 0)) ∧ Below w.heap.size w w')
          (first
            | (go_keep; done)
            | exact ⟨g3, HKN.out, HBN.out.drew⟩
            | assumption)
          (first
            | (go_at_call 55; refine (HRD.out _).mono ?_; rintro e w5 ⟨rfl, rfl⟩))
        rename_i hH
        clear hH
        go_wp2_with fail
        go_meet
        exact ⟨_, (.mk t.kind t.name t.other 0 t.ty t.res t.args), tp, tc, rp, rc, rfl, Bx9.of (blk_new w1 _), clear_num (by have := HKD.out; omega) (by have := HKD.out; omega) (by have := HKD.out; omega) HAR.out (by rw [beq_iff_eq, Tm.most, if_pos HKD.out]; omega), (HB1.out.trans ((al_below w1 _).mono HB1.out.size)).drew⟩
      by_cases k3 : t.kind = 3
      · have HKD := Lib.hid k3
        have e1 : (t.kind == 1) = false := by simp [k3]
        have e8 : (t.kind == 8) = false := by simp [k3]
        have e2 : (t.kind == 2) = false := by simp [k3]
        have e3 : (t.kind == 3) = true := by simp [k3]
        clear k1 k8 k2
        clear k3
        have c3 := cell_of_blk HKN.out 3
        have cz := unfrozen_of_blk HKN.out
        by_cases z0 : t.n = 0
        · have z1 : (t.n == 0) = true := by simp [z0]
          have HZ := Lib.hid z0
          clear z0
          go_wp2_with fail
          go_meet
          exact ⟨_, (.mk t.kind t.name t.other 0 t.ty t.res t.args), tp, tc, rp, rc, rfl, Bx9.of (blk_new w1 _), clear_num (by have := HKD.out; omega) (by have := HKD.out; omega) (by have := HKD.out; omega) HAR.out (by rw [Tm.most, if_neg (by have := HKD.out; omega), if_pos HKD.out]; have := HZ.out; simp only [true_iff]; omega), (HB1.out.trans ((al_below w1 _).mono HB1.out.size))⟩
        · have z1 : (t.n == 0) = false := by simp [z0]
          have HZ := Lib.hid z0
          clear z0
          go_wp2_with fail
          go_meet
          exact ⟨_, (.mk t.kind t.name t.other 0 t.ty t.res t.args), tp, tc, rp, rc, rfl, Bx9.of (blk_new w1 _), clear_num (by have := HKD.out; omega) (by have := HKD.out; omega) (by have := HKD.out; omega) HAR.out (by rw [Tm.most, if_neg (by have := HKD.out; omega), if_pos HKD.out]; have := HZ.out; rw [beq_iff_eq]; omega), (HB1.out.trans ((al_below w1 _).mono HB1.out.size))⟩
      by_cases k4 : t.kind = 4
      · have HKD := Lib.hid k4
        have e1 : (t.kind == 1) = false := by simp [k4]
        have e8 : (t.kind == 8) = false := by simp [k4]
        have e2 : (t.kind == 2) = false := by simp [k4]
        have e3 : (t.kind == 3) = false := by simp [k4]
        have e4 : (t.kind == 4) = true := by simp [k4]
        clear k1 k8 k2 k3
        clear k4
        have c1 := cell_of_blk HKN.out 1
        have cz := unfrozen_of_blk HKN.out
        go_wp2_with fail
        go_meet
        exact ⟨_, (.mk t.kind ⟨#[]⟩ t.other t.n t.ty t.res t.args), tp, tc, rp, rc, rfl, Bx9.of (blk_new w1 _), clear_op HKD.out HAR.out, (HB1.out.trans ((al_below w1 _).mono HB1.out.size))⟩
      by_cases k6 : t.kind = 6
      · have HKD := Lib.hid k6
        have e1 : (t.kind == 1) = false := by simp [k6]
        have e8 : (t.kind == 8) = false := by simp [k6]
        have e2 : (t.kind == 2) = false := by simp [k6]
        have e3 : (t.kind == 3) = false := by simp [k6]
        have e4 : (t.kind == 4) = false := by simp [k6]
        have e6 : (t.kind == 6) = true := by simp [k6]
        clear k1 k8 k2 k3 k4
        clear k6
        go_wp2_with fail
        refine (HNM.out _).mono ?_
        rintro e w2 ⟨r2, hr2, rfl, hb2⟩
        have HR2 := Lib.hid hr2
        clear hr2
        have HB2 := Lib.hid (HBN.out.trans (hb2.mono HBN.out.size))
        have HX2 := Lib.hid (HXN.out.keep hb2)
        have HK2 := Lib.hid ((hb2.block _ (Array.getElem?_eq_some_iff.1 HKN.out).1).trans HKN.out)
        clear hb2 g0 g1 g2 g3 g4 g5 g6 g7 g8
        obtain ⟨g0, g1, g2, g3, g4, g5, g6, g7, g8⟩ := HX2.out
        have c1 := cell_of_blk HK2.out 1
        have c4 := cell_of_blk HK2.out 4
        have c5 := cell_of_blk HK2.out 5
        have cz := unfrozen_of_blk HK2.out
        cases r2 with
        | false =>
          go_wp2_with fail
          go_meet
          exact ⟨_, (.mk t.kind ⟨#[]⟩ t.other t.n (.mk 0 []) t.res t.args), none, 0, rp, rc, rfl, Bx9.of (by rw [Go.Joins.block_setCell (Go.Joins.block_setCell (Go.Joins.block_setCell HK2.out _) _) _]; rfl), clear_six HKD.out HAR.out ⟨fun h => (by cases h), fun h => absurd (HR2.out.2 h.1) (by decide)⟩, (((HB2.out.setCell (p := ⟨w1.heap.size, 1, none⟩) (by show w.heap.size ≤ w1.heap.size; exact HB1.out.size) _).setCell (p := ⟨w1.heap.size, 4, none⟩) (by show w.heap.size ≤ w1.heap.size; exact HB1.out.size) _).setCell (p := ⟨w1.heap.size, 5, none⟩) (by show w.heap.size ≤ w1.heap.size; exact HB1.out.size) _)⟩
        | true =>
          clear c1 c4 c5 cz
          go_wp2_with fail
          refine (HVT.out _ HB2.out).mono ?_
          rintro e w3 ⟨r3, hr3, rfl, hb3⟩
          have HR3 := Lib.hid hr3
          clear hr3
          have HB3 := Lib.hid (HB2.out.trans (hb3.mono HB2.out.size))
          have HX3 := Lib.hid (HX2.out.keep hb3)
          have HK3 := Lib.hid ((hb3.block _ (Array.getElem?_eq_some_iff.1 HK2.out).1).trans HK2.out)
          clear hb3 g0 g1 g2 g3 g4 g5 g6 g7 g8
          obtain ⟨g0, g1, g2, g3, g4, g5, g6, g7, g8⟩ := HX3.out
          have c1 := cell_of_blk HK3.out 1
          have c4 := cell_of_blk HK3.out 4
          have c5 := cell_of_blk HK3.out 5
          have cz := unfrozen_of_blk HK3.out
          go_wp2_with fail
          go_meet
          exact ⟨_, (.mk t.kind ⟨#[]⟩ t.other t.n (.mk 0 []) t.res t.args), none, 0, rp, rc, rfl, Bx9.of (by rw [Go.Joins.block_setCell (Go.Joins.block_setCell (Go.Joins.block_setCell HK3.out _) _) _]; rfl), clear_six HKD.out HAR.out (by rw [HR3.out]; exact ⟨fun h => ⟨HR2.out.1 (by trivial), h⟩, fun h => h.2⟩), (((HB3.out.setCell (p := ⟨w1.heap.size, 1, none⟩) (by show w.heap.size ≤ w1.heap.size; exact HB1.out.size) _).setCell (p := ⟨w1.heap.size, 4, none⟩) (by show w.heap.size ≤ w1.heap.size; exact HB1.out.size) _).setCell (p := ⟨w1.heap.size, 5, none⟩) (by show w.heap.size ≤ w1.heap.size; exact HB1.out.size) _)⟩
      by_cases k9 : t.kind = 9
      · have HKD := Lib.hid k9
        have e1 : (t.kind == 1) = false := by simp [k9]
        have e8 : (t.kind == 8) = false := by simp [k9]
        have e2 : (t.kind == 2) = false := by simp [k9]
        have e3 : (t.kind == 3) = false := by simp [k9]
        have e4 : (t.kind == 4) = false := by simp [k9]
        have e6 : (t.kind == 6) = false := by simp [k9]
        have e9 : (t.kind == 9) = true := by simp [k9]
        clear k1 k8 k2 k3 k4 k6
        clear k9
        go_wp2_with fail
        refine (HNM.out _).mono ?_
        rintro e w2 ⟨r2, hr2, rfl, hb2⟩
        have HR2 := Lib.hid hr2
        clear hr2
        have HB2 := Lib.hid (HBN.out.trans (hb2.mono HBN.out.size))
        have HX2 := Lib.hid (HXN.out.keep hb2)
        have HK2 := Lib.hid ((hb2.block _ (Array.getElem?_eq_some_iff.1 HKN.out).1).trans HKN.out)
        clear hb2 g0 g1 g2 g3 g4 g5 g6 g7 g8
        obtain ⟨g0, g1, g2, g3, g4, g5, g6, g7, g8⟩ := HX2.out
        cases r2 with
        | false =>
          have c1 := cell_of_blk HK2.out 1
          have c2 := cell_of_blk HK2.out 2
          have c4 := cell_of_blk HK2.out 4
          have c5 := cell_of_blk HK2.out 5
          have c6 := cell_of_blk HK2.out 6
          have c7 := cell_of_blk HK2.out 7
          have cz := unfrozen_of_blk HK2.out
          go_wp2_with fail
          go_meet
          exact ⟨_, (.mk t.kind ⟨#[]⟩ ⟨#[]⟩ t.n (.mk 0 []) (.mk 0 []) t.args), none, 0, none, 0, rfl, Bx9.of (by rw [Go.Joins.block_setCell (Go.Joins.block_setCell (Go.Joins.block_setCell (Go.Joins.block_setCell (Go.Joins.block_setCell (Go.Joins.block_setCell HK2.out _) _) _) _) _) _]; rfl), clear_nine HKD.out HAR.out ⟨fun h => (by cases h), fun h => absurd (HR2.out.2 h.1) (by decide)⟩, ((((((HB2.out.setCell (p := ⟨w1.heap.size, 1, none⟩) (by show w.heap.size ≤ w1.heap.size; exact HB1.out.size) _).setCell (p := ⟨w1.heap.size, 2, none⟩) (by show w.heap.size ≤ w1.heap.size; exact HB1.out.size) _).setCell (p := ⟨w1.heap.size, 4, none⟩) (by show w.heap.size ≤ w1.heap.size; exact HB1.out.size) _).setCell (p := ⟨w1.heap.size, 5, none⟩) (by show w.heap.size ≤ w1.heap.size; exact HB1.out.size) _).setCell (p := ⟨w1.heap.size, 6, none⟩) (by show w.heap.size ≤ w1.heap.size; exact HB1.out.size) _).setCell (p := ⟨w1.heap.size, 7, none⟩) (by show w.heap.size ≤ w1.heap.size; exact HB1.out.size) _)⟩
        | true =>
          go_wp2_with fail
          refine (HNO.out _).mono ?_
          rintro e w3 ⟨r3, hr3, rfl, hb3⟩
          have HR3 := Lib.hid hr3
          clear hr3
          have HB3 := Lib.hid (HB2.out.trans (hb3.mono HB2.out.size))
          have HX3 := Lib.hid (HX2.out.keep hb3)
          have HK3 := Lib.hid ((hb3.block _ (Array.getElem?_eq_some_iff.1 HK2.out).1).trans HK2.out)
          clear hb3 g0 g1 g2 g3 g4 g5 g6 g7 g8
          obtain ⟨g0, g1, g2, g3, g4, g5, g6, g7, g8⟩ := HX3.out
          cases r3 with
          | false =>
            have c1 := cell_of_blk HK3.out 1
            have c2 := cell_of_blk HK3.out 2
            have c4 := cell_of_blk HK3.out 4
            have c5 := cell_of_blk HK3.out 5
            have c6 := cell_of_blk HK3.out 6
            have c7 := cell_of_blk HK3.out 7
            have cz := unfrozen_of_blk HK3.out
            go_wp2_with fail
            go_meet
            exact ⟨_, (.mk t.kind ⟨#[]⟩ ⟨#[]⟩ t.n (.mk 0 []) (.mk 0 []) t.args), none, 0, none, 0, rfl, Bx9.of (by rw [Go.Joins.block_setCell (Go.Joins.block_setCell (Go.Joins.block_setCell (Go.Joins.block_setCell (Go.Joins.block_setCell (Go.Joins.block_setCell HK3.out _) _) _) _) _) _]; rfl), clear_nine HKD.out HAR.out ⟨fun h => (by cases h), fun h => absurd (HR3.out.2 h.2.1) (by decide)⟩, ((((((HB3.out.setCell (p := ⟨w1.heap.size, 1, none⟩) (by show w.heap.size ≤ w1.heap.size; exact HB1.out.size) _).setCell (p := ⟨w1.heap.size, 2, none⟩) (by show w.heap.size ≤ w1.heap.size; exact HB1.out.size) _).setCell (p := ⟨w1.heap.size, 4, none⟩) (by show w.heap.size ≤ w1.heap.size; exact HB1.out.size) _).setCell (p := ⟨w1.heap.size, 5, none⟩) (by show w.heap.size ≤ w1.heap.size; exact HB1.out.size) _).setCell (p := ⟨w1.heap.size, 6, none⟩) (by show w.heap.size ≤ w1.heap.size; exact HB1.out.size) _).setCell (p := ⟨w1.heap.size, 7, none⟩) (by show w.heap.size ≤ w1.heap.size; exact HB1.out.size) _)⟩
          | true =>
            by_cases hq : t.name = t.other
            · have hq1 := str_yes hq
              have HQ := Lib.hid hq
              clear hq
              have c1 := cell_of_blk HK3.out 1
              have c2 := cell_of_blk HK3.out 2
              have c4 := cell_of_blk HK3.out 4
              have c5 := cell_of_blk HK3.out 5
              have c6 := cell_of_blk HK3.out 6
              have c7 := cell_of_blk HK3.out 7
              have cz := unfrozen_of_blk HK3.out
              go_wp2_with fail
              go_meet
              exact ⟨_, (.mk t.kind ⟨#[]⟩ ⟨#[]⟩ t.n (.mk 0 []) (.mk 0 []) t.args), none, 0, none, 0, rfl, Bx9.of (by rw [Go.Joins.block_setCell (Go.Joins.block_setCell (Go.Joins.block_setCell (Go.Joins.block_setCell (Go.Joins.block_setCell (Go.Joins.block_setCell HK3.out _) _) _) _) _) _]; rfl), clear_nine HKD.out HAR.out ⟨fun h => (by cases h), fun h => absurd HQ.out h.2.2.1⟩, ((((((HB3.out.setCell (p := ⟨w1.heap.size, 1, none⟩) (by show w.heap.size ≤ w1.heap.size; exact HB1.out.size) _).setCell (p := ⟨w1.heap.size, 2, none⟩) (by show w.heap.size ≤ w1.heap.size; exact HB1.out.size) _).setCell (p := ⟨w1.heap.size, 4, none⟩) (by show w.heap.size ≤ w1.heap.size; exact HB1.out.size) _).setCell (p := ⟨w1.heap.size, 5, none⟩) (by show w.heap.size ≤ w1.heap.size; exact HB1.out.size) _).setCell (p := ⟨w1.heap.size, 6, none⟩) (by show w.heap.size ≤ w1.heap.size; exact HB1.out.size) _).setCell (p := ⟨w1.heap.size, 7, none⟩) (by show w.heap.size ≤ w1.heap.size; exact HB1.out.size) _)⟩
            · have hq1 := str_no hq
              have HQ := Lib.hid hq
              clear hq
              go_wp2_with fail
              refine (HVT.out _ HB3.out).mono ?_
              rintro e w4 ⟨r4, hr4, rfl, hb4⟩
              have HR4 := Lib.hid hr4
              clear hr4
              have HB4 := Lib.hid (HB3.out.trans (hb4.mono HB3.out.size))
              have HX4 := Lib.hid (HX3.out.keep hb4)
              have HK4 := Lib.hid ((hb4.block _ (Array.getElem?_eq_some_iff.1 HK3.out).1).trans HK3.out)
              clear hb4 g0 g1 g2 g3 g4 g5 g6 g7 g8
              obtain ⟨g0, g1, g2, g3, g4, g5, g6, g7, g8⟩ := HX4.out
              cases r4 with
              | false =>
                have c1 := cell_of_blk HK4.out 1
                have c2 := cell_of_blk HK4.out 2
                have c4 := cell_of_blk HK4.out 4
                have c5 := cell_of_blk HK4.out 5
                have c6 := cell_of_blk HK4.out 6
                have c7 := cell_of_blk HK4.out 7
                have cz := unfrozen_of_blk HK4.out
                go_wp2_with fail
                go_meet
                exact ⟨_, (.mk t.kind ⟨#[]⟩ ⟨#[]⟩ t.n (.mk 0 []) (.mk 0 []) t.args), none, 0, none, 0, rfl, Bx9.of (by rw [Go.Joins.block_setCell (Go.Joins.block_setCell (Go.Joins.block_setCell (Go.Joins.block_setCell (Go.Joins.block_setCell (Go.Joins.block_setCell HK4.out _) _) _) _) _) _]; rfl), clear_nine HKD.out HAR.out ⟨fun h => (by cases h), fun h => absurd (HR4.out.trans h.2.2.2.1) (by decide)⟩, ((((((HB4.out.setCell (p := ⟨w1.heap.size, 1, none⟩) (by show w.heap.size ≤ w1.heap.size; exact HB1.out.size) _).setCell (p := ⟨w1.heap.size, 2, none⟩) (by show w.heap.size ≤ w1.heap.size; exact HB1.out.size) _).setCell (p := ⟨w1.heap.size, 4, none⟩) (by show w.heap.size ≤ w1.heap.size; exact HB1.out.size) _).setCell (p := ⟨w1.heap.size, 5, none⟩) (by show w.heap.size ≤ w1.heap.size; exact HB1.out.size) _).setCell (p := ⟨w1.heap.size, 6, none⟩) (by show w.heap.size ≤ w1.heap.size; exact HB1.out.size) _).setCell (p := ⟨w1.heap.size, 7, none⟩) (by show w.heap.size ≤ w1.heap.size; exact HB1.out.size) _)⟩
              | true =>
                go_wp2_with fail
                refine (HVR.out _ HB4.out).mono ?_
                rintro e w5 ⟨r5, hr5, rfl, hb5⟩
                have HR5 := Lib.hid hr5
                clear hr5
                have HB5 := Lib.hid (HB4.out.trans (hb5.mono HB4.out.size))
                have HX5 := Lib.hid (HX4.out.keep hb5)
                have HK5 := Lib.hid ((hb5.block _ (Array.getElem?_eq_some_iff.1 HK4.out).1).trans HK4.out)
                clear hb5 g0 g1 g2 g3 g4 g5 g6 g7 g8
                obtain ⟨g0, g1, g2, g3, g4, g5, g6, g7, g8⟩ := HX5.out
                have c1 := cell_of_blk HK5.out 1
                have c2 := cell_of_blk HK5.out 2
                have c4 := cell_of_blk HK5.out 4
                have c5 := cell_of_blk HK5.out 5
                have c6 := cell_of_blk HK5.out 6
                have c7 := cell_of_blk HK5.out 7
                have cz := unfrozen_of_blk HK5.out
                go_wp2_with fail
                go_meet
                exact ⟨_, (.mk t.kind ⟨#[]⟩ ⟨#[]⟩ t.n (.mk 0 []) (.mk 0 []) t.args), none, 0, none, 0, rfl, Bx9.of (by rw [Go.Joins.block_setCell (Go.Joins.block_setCell (Go.Joins.block_setCell (Go.Joins.block_setCell (Go.Joins.block_setCell (Go.Joins.block_setCell HK5.out _) _) _) _) _) _]; rfl), clear_nine HKD.out HAR.out (by rw [HR5.out]; exact ⟨fun h => ⟨HR2.out.1 (by trivial), HR3.out.1 (by trivial), HQ.out, HR4.out.symm, h⟩, fun h => h.2.2.2.2⟩), ((((((HB5.out.setCell (p := ⟨w1.heap.size, 1, none⟩) (by show w.heap.size ≤ w1.heap.size; exact HB1.out.size) _).setCell (p := ⟨w1.heap.size, 2, none⟩) (by show w.heap.size ≤ w1.heap.size; exact HB1.out.size) _).setCell (p := ⟨w1.heap.size, 4, none⟩) (by show w.heap.size ≤ w1.heap.size; exact HB1.out.size) _).setCell (p := ⟨w1.heap.size, 5, none⟩) (by show w.heap.size ≤ w1.heap.size; exact HB1.out.size) _).setCell (p := ⟨w1.heap.size, 6, none⟩) (by show w.heap.size ≤ w1.heap.size; exact HB1.out.size) _).setCell (p := ⟨w1.heap.size, 7, none⟩) (by show w.heap.size ≤ w1.heap.size; exact HB1.out.size) _)⟩
      have e1 : (t.kind == 1) = false := by simp [k1]
      have e8 : (t.kind == 8) = false := by simp [k8]
      have e2 : (t.kind == 2) = false := by simp [k2]
      have e3 : (t.kind == 3) = false := by simp [k3]
      have e4 : (t.kind == 4) = false := by simp [k4]
      have e6 : (t.kind == 6) = false := by simp [k6]
      have e9 : (t.kind == 9) = false := by simp [k9]
      have HKO := Lib.hid (And.intro k4 (And.intro (show ¬ (t.kind = 1 ∨ t.kind = 6 ∨ t.kind = 8) by omega) (And.intro k9 (And.intro k2 k3))))
      clear k1 k8 k2 k3 k4 k6 k9
      go_wp2_with fail
      go_meet
      exact ⟨_, t, tp, tc, rp, rc, rfl, Bx9.of HKN.out, (by have := clear_oth HKO.out.1 HKO.out.2.1 HKO.out.2.2.1 HKO.out.2.2.2.1 HKO.out.2.2.2.2 HAR.out; rwa [← t.eta] at this), HBN.out⟩
    case rest =>
      obtain ⟨pr, u, tp', tc', rp', rc', rfl, hx, hiff, hbx⟩ := hcut
      have HI := Lib.hid hiff
      have HBX := Lib.hid hbx
      have HXU := Lib.hid hx
      clear hiff hbx hx g0 g1 g2 g3 g4 g5 g6 g7 g8
      obtain ⟨d0, d1, d2, d3, d4, d5, d6, d7, d8⟩ := HXU.out
      cases pr with
      | false =>
        go_wp2_with fail
        go_ret
        exact ⟨_, lit_f (fun h => by have := (HI.out.2 h).1; cases this), rfl, HBX.out⟩
      | true =>
        by_cases z1 : u.name.toList = []
        case neg =>
          have q1 : (u.name.toList == []) = false := by simpa using z1
          have HZ1 := Lib.hid z1
          clear z1
          go_wp2_with fail
          go_ret
          exact ⟨_, lit_f (fun h => HZ1.out (HI.out.2 h).2.1), rfl, HBX.out⟩
        have q1 : (u.name.toList == []) = true := by simpa using z1
        have HZ1 := Lib.hid z1
        clear z1
        by_cases z2 : u.other.toList = []
        case neg =>
          have q2 : (u.other.toList == []) = false := by simpa using z2
          have HZ2 := Lib.hid z2
          clear z2
          go_wp2_with fail
          go_ret
          exact ⟨_, lit_f (fun h => HZ2.out (HI.out.2 h).2.2.1), rfl, HBX.out⟩
        have q2 : (u.other.toList == []) = true := by simpa using z2
        have HZ2 := Lib.hid z2
        clear z2
        by_cases z3 : u.n = 0
        case neg =>
          have q3 : (u.n == 0) = false := by simpa using z3
          have HZ3 := Lib.hid z3
          clear z3
          go_wp2_with fail
          go_ret
          exact ⟨_, lit_f (fun h => HZ3.out (HI.out.2 h).2.2.2.1), rfl, HBX.out⟩
        have q3 : (u.n == 0) = true := by simpa using z3
        have HZ3 := Lib.hid z3
        clear z3
        go_wp2_with fail
        refine (zeroI_any _ _ _ _ _).mono ?_
        rintro e w8 ⟨r8, hr8, rfl, hb8⟩
        have HR8 := Lib.hid hr8
        have HB8 := Lib.hid (HBX.out.trans (hb8.mono HBX.out.size))
        clear hr8 d0 d1 d2 d3 d4 d5 d6 d7 d8
        obtain ⟨d0, d1, d2, d3, d4, d5, d6, d7, d8⟩ := HXU.out.keep hb8
        clear hb8
        cases r8 with
        | false =>
          go_wp2_with fail
          go_ret
          exact ⟨_, lit_f (fun h => by have := HR8.out.2 (HI.out.2 h).2.2.2.2.1; cases this), rfl, HB8.out⟩
        | true =>
          go_wp2_with fail
          refine (zeroI_any _ _ _ _ _).mono ?_
          rintro e w9 ⟨r9, hr9, rfl, hb9⟩
          have HR9 := Lib.hid hr9
          have HB9 := Lib.hid (HB8.out.trans (hb9.mono HB8.out.size))
          clear hr9 hb9 d0 d1 d2 d3 d4 d5 d6 d7 d8
          go_wp2_with fail
          go_ret
          exact ⟨_, ⟨fun h => HI.out.1 ⟨by trivial, HZ1.out, HZ2.out, HZ3.out, HR8.out.1 (by trivial), HR9.out.1 h⟩, fun h => HR9.out.2 (HI.out.2 h).2.2.2.2.2⟩, rfl, HB9.out⟩
end Go.Proofs.YtingnigiijdllaaDoor
namespace Go.Proofs.YtingnigiijdllaaDoor
open Go Go.RowKit Go.Shelf
attribute [local go_sem] Oper.semAt_some

end Go.Proofs.YtingnigiijdllaaDoor
namespace Go.Proofs.YtingnigiijdllaaDoor
open Go Go.RowKit Go.Shelf
attribute [local go_sem] Oper.semAt_some

set_option maxRecDepth 100000 in
set_option maxHeartbeats 2000000 in
theorem isTermI_any {C : Nat → Prop} {t : Tm} {v : Value} {w : World} (hka : KA w) (h : TM w C t v) (hn : t.wt ≤ 2097152) :
    Calls Tryd.prog 29 #[v] w (Tells t.IsT w) := by
  have hnt : t.nodes ≤ 2097153 := by have := t.nodes_wt; omega
  have HKA := Lib.hid (fun (w' : World) (hb : Below w.heap.size w w') => hka.below hb)
  have HWT := Lib.hid hn
  clear hka hn
  obtain ⟨tp, tc, rp, rc, p, c, rfl, hT⟩ := h
  have HT := Lib.hid (hT.mono (C' := (· < w.heap.size)) (fun _ _ h => h))
  clear hT
  refine (callsIn_wide (n := 2)).1 ?_
  refine callsIn_of_wp_marks Tryd.func29 rfl trivial ?_ rfl
  simp only [Tryd.ntmps29, List.size_toArray, List.length_cons, List.length_nil, Nat.reduceAdd, Nat.reduceSub, Array.replicate_succ, Array.replicate_zero, List.push_toArray, List.append_toArray, List.nil_append, List.cons_append]
  gi_wp2_with fail
  obtain ⟨w0, hw0, hs0, hb0, hk0, hk1⟩ := box_new2 w (tmC t tp tc rp rc p c) #[.bool false] 35 4
  rw [hw0]
  refine ⟨trivial, ?_⟩
  refine (callsIn_wide.2 (tnM_any (HT.out.stays (.of_below hb0)))).mono ?_
  rintro e wl ⟨Bt, Bp, rfl, hI, hbw, hBt, hBp⟩
  have hsz := hbw.size
  have hbl : Below w.heap.size w wl := hb0.trans (hbw.mono hb0.size)
  have k1 : wl.heap[w.heap.size + 1]? = some (.cells #[.bool false] 4 (0, 0)) := (hbw.block _ (by omega)).trans hk1
  have hbp := (Array.getElem?_eq_some_iff.1 hI.bp).1
  have HSL : TM' wl (fun b => b < w.heap.size ∨ b = Bp) t tp tc rp rc p c := (HT.out.stays (.of_below hbl)).mono (fun z hz _ => Or.inl hz)
  clear hk0 hk1 hb0 hw0
  gi_wp2_with fail
  refine range_law (F := Fence.wide) (n := 2) rfl (by omega) (gf := 97) (lb := #[.pointer (some ⟨Bt, 0, none⟩), .pointer (some ⟨Bp, 0, none⟩)]) rfl trivial (enters_of Tryd.func97 (by kernel_rfl) rfl)
    (nodesM_seq2 hI HSL hnt (Below.refl _ _) (fun b => b = w.heap.size + 1) (fun b h => by omega) (fun b h => by omega) (Or.inr rfl)) (fun _ => rfl) (fun b h => by omega)
    (fun pre W => W.heap[w.heap.size + 1]? = some (.cells #[.bool false] 4 (0, 0)) ∧ AllOk pre ∧ Below w.heap.size w W)
    (fun j pre W => j = .ret ∧ W.cell? ⟨w.heap.size + 1, 0, none⟩ = some (.bool false) ∧ ¬ t.IsT ∧ Below w.heap.size w W)
    (fun pre A B h hb => ⟨(hb.block _ (by omega)).trans h.1, h.2.1, h.2.2.trans (hb.mono (by omega))⟩)
    (fun j pre A B h hb => ⟨h.1, (hb.cell (by show w.heap.size + 1 < _; omega)).trans h.2.1, h.2.2.1, h.2.2.2.trans (hb.mono (by omega))⟩)
    (goodM_keep (fun b h => by omega)) ⟨k1, (fun e he => absurd he (List.not_mem_nil)), hbl⟩
    (fun x a' W => ∃ bx, W.heap[bx]? = some (.cells x.2.1.cells 35 (0, 0)) ∧ a' = { tmps := #[tmV t tp tc rp rc p c, .pointer (some ⟨w.heap.size, 0, none⟩), .pointer (some ⟨w.heap.size + 1, 0, none⟩), .pointer (some ⟨bx, 0, none⟩),
      tmV t tp tc rp rc p c, iterM Bt Bp, x.2.1, .int .i64 (x.2.2 : Nat), undef, undef, undef], defers := [] })
    (fun x a' W l r o h hl => by
      obtain ⟨bx, h2, h3⟩ := h
      exact ⟨bx, (World.putObj_heap_other (fun e => by rw [e, hl] at h2; cases h2)).trans h2, h3⟩) ?assign ?body ?done ?stop
  case assign =>
    rintro l ⟨x, v, d⟩ W K hG hK
    have hG : TM W _ x v := hG
    obtain ⟨tp', tc', rp', rc', p', c', rfl, hG'⟩ := hG
    have HK := Lib.hid hK
    clear hK
    gi_wp2
    exact HK.out _ _ ((Below.refl _ _).alloc (Nat.le_refl _) _) ⟨W.heap.size, blk_new _ _, by simp⟩
  case body =>
    rintro l pre ⟨x, v, d⟩ a' W ⟨hr, hso, hB⟩ hpre hG ⟨bx, hbx, rfl⟩
    have hpre : pre ++ [(x, d)] <+: walkM t 1 := hpre
    have hbx : W.heap[bx]? = some (.cells v.cells 35 (0, 0)) := hbx
    have hG : TM W _ x v := hG
    obtain ⟨tp', tc', rp', rc', p', c', rfl, hG'⟩ := hG
    simp only [Value.cells] at hbx
    obtain ⟨x0, x1, x2, x3, x4, x5, x6, x7, x8⟩ := Bx9.of hbx
    have hxw : x.wt ≤ 2097152 := by
      have h1 := wt_walk t 1 (x, d) (hpre.subset (by simp))
      have h2 := HWT.out
      simp only at h1
      omega
    have HC := Lib.hid (formI_any W (HKA.out W hB) hG' hxw)
    have HR1 := Lib.hid hr
    have HB1 := Lib.hid hB
    have HSO := Lib.hid hso
    have HP := Lib.hid hpre
    clear hso hpre hr hbx hB k1 hG' HSL hbl hbw hI hxw
    gi_wp2_with fail
    refine ⟨trivial, rfl, ?_⟩
    refine (CallsIn.inRound l (callsIn_wide.2 HC.out)).mono ?_
    rintro e W2 ⟨b, hb, rfl, hb2⟩
    have l2 := (Array.getElem?_eq_some_iff.1 HR1.out).1
    have HR2 := Lib.hid ((hb2.block _ l2).trans HR1.out)
    have r2 := cell_of_blk HR2.out 0
    have rz := unfrozen_of_blk HR2.out 0
    simp only [List.getElem?_toArray, List.getElem?_cons_zero] at r2
    have hH2 : Holds (fun b => b = w.heap.size + 1) W W2 := .of_below hb2
    have hB2 : Below w.heap.size w W2 := HB1.out.trans (hb2.mono HB1.out.size)
    have HBB := Lib.hid hb
    have HH2 := Lib.hid hH2
    have HB2 := Lib.hid hB2
    clear hb hb2 hH2 hB2 x0 x1 x2 x3 x4 x5 x6 x7 x8 l2
    cases b with
    | false =>
      have hcc := World.cell?_setCell_same' W2 ⟨w.heap.size + 1, 0, none⟩ (.bool false) (by rw [r2]; rfl)
      have HCC := Lib.hid hcc
      clear hcc
      gi_wp2_with fail
      exact ⟨HH2.out.setCell ⟨w.heap.size + 1, 0, none⟩ rfl _, rfl, HCC.out, not_isT_at HP.out (fun h => by have := HBB.out.2 h; cases this), HB2.out.setCell (p := ⟨w.heap.size + 1, 0, none⟩) (by show w.heap.size ≤ w.heap.size + 1; omega) _⟩
    | true =>
      gi_wp2_with fail
      exact ⟨HH2.out, HR2.out, HSO.out.next (HBB.out.1 (by trivial)), HB2.out⟩
  case done =>
    rintro D W hD ⟨hr, hso, hB⟩ hK
    have r0 := cell_of_blk hr 0
    have rz := unfrozen_of_blk hr 0
    simp only [List.getElem?_toArray, List.getElem?_cons_zero] at r0
    have HV := Lib.hid (isT_of hso)
    have HB := Lib.hid hB
    have hK' : (W.setCell ⟨w.heap.size + 1, 0, none⟩ (.bool true)).heap[D]? = some (.deferred (some [])) := (Below.heap_setCell _ _ _ _ (by show D ≠ w.heap.size + 1; omega)).trans hK
    clear hso hB hr hK k1 HSL hbl hbw hI
    gi_wp2_with fail
    refine ⟨by simp, .inl ⟨_, _, rfl, run_takeDeferred hK', ?_⟩⟩
    have hc := (World.cell?_of_block (a := ⟨w.heap.size + 1, 0, none⟩) (w' := (W.setCell ⟨w.heap.size + 1, 0, none⟩ (.bool true)).putObj D (.deferred none)) (World.putObj_heap_other (by show w.heap.size + 1 ≠ D; omega))).trans (World.cell?_setCell_same' W ⟨w.heap.size + 1, 0, none⟩ (.bool true) (by rw [r0]; rfl))
    refine ⟨.bool true, ?_, _, ⟨fun _ => HV.out, fun _ => rfl⟩, rfl, (HB.out.setCell (p := ⟨w.heap.size + 1, 0, none⟩) (by show w.heap.size ≤ w.heap.size + 1; omega) _).trans (below_putObj _ _ _ _ (by omega))⟩
    rw [results_cell1 rfl]
    go_simp
  case stop =>
    rintro D c pre W hD hpre ⟨rfl, hr, hv, hB⟩ hK
    have HB := Lib.hid hB
    have HV := Lib.hid hv
    clear hv hB k1 HSL hbl hbw hI
    gi_wp2_with fail
    refine ⟨by simp, .inl ⟨_, _, rfl, run_takeDeferred hK, ?_⟩⟩
    have hc := (World.cell?_of_block (a := ⟨w.heap.size + 1, 0, none⟩) (w' := W.putObj D (.deferred none)) (World.putObj_heap_other (by show w.heap.size + 1 ≠ D; omega))).trans hr
    refine ⟨.bool false, ?_, _, ⟨fun h => by simp at h, fun h => absurd h HV.out⟩, rfl, HB.out.trans (below_putObj _ _ _ _ (by omega))⟩
    rw [results_cell1 rfl]
    go_simp
end Go.Proofs.YtingnigiijdllaaDoor
namespace Go.Proofs.YtingnigiijdllaaDoor
open Go Go.RowKit
def Keep (base : Nat) (B : Nat → Prop) (w w' : World) : Prop := Below base w w' ∧ ∀ b, B b → b < w.heap.size → w'.heap[b]? = w.heap[b]?
theorem Keep.of_below {base : Nat} {B : Nat → Prop} {w w' : World} (hb : base ≤ w.heap.size) (h : Below w.heap.size w w') : Keep base B w w' := ⟨h.mono hb, fun b _ hl => h.block b hl⟩
theorem Keep.mono {base base' : Nat} {B B' : Nat → Prop} {w w' : World} (h : Keep base B w w') (hb : base' ≤ base) (hB : ∀ b, B' b → B b) : Keep base' B' w w' := ⟨h.1.mono hb, fun b hb hl => h.2 b (hB b hb) hl⟩
def Grew (B B' : Nat → Prop) (n m : Nat) : Prop := ∀ b, B' b → (B b ∨ n ≤ b) ∧ b < m
theorem Grew.refl {B : Nat → Prop} {n m : Nat} (h : ∀ b, B b → b < m) : Grew B B n m := fun b hb => ⟨Or.inl hb, h b hb⟩
def SeqD {α β : Type} (F : Fence) (n : Nat) (P : Program) (g : Nat) (lb : Array Value) (encs : α → Array Value) (key : α → β) (Good : α → (Nat → Prop) → World → Prop) (C : Nat → Prop) (all : List β) (w : World) : Prop :=
  ∀ (l : Nat) (J Jx : List β → (Nat → Prop) → (Nat → Prop) → World → Prop) (B0 : Nat → Prop) (W : World), Below w.heap.size w W → (∀ b, C b → ¬ B0 b) → (∀ b, B0 b → b < W.heap.size) →
    (∀ pre B N A A', J pre B N A → Keep W.heap.size (fun z => B z ∨ N z) A A' → J pre B N A') →
    (∀ pre B N A A', Jx pre B N A → Keep W.heap.size (fun z => B z ∨ N z) A A' → Jx pre B N A') →
    (∀ pre x Y B N W1, J pre B N W1 → pre ++ [key x] <+: all → Good x Y W1 → (∀ z, Y z → ¬ B z) → YieldAt F (n - 1) P l (encs x) W1 fun e W' =>
      ∃ B' N', Grew B B' W1.heap.size W'.heap.size ∧ (∀ z, N' z → N z ∨ Y z) ∧ ((e = .returned (.bool true) ∧ J (pre ++ [key x]) B' N' W' ∧ Holds B W1 W') ∨ (e = .returned (.bool false) ∧ Jx (pre ++ [key x]) B' N' W' ∧ Holds B W1 W'))) →
    J [] B0 (fun _ => False) W →
    CallsIn F n P g (#[.func (.yield l) #[] #[]] ++ lb) W fun e W' => (∃ v, e = .returned v) ∧ ((∃ B' N', J all B' N' W') ∨ ∃ pre B' N', pre <+: all ∧ Jx pre B' N' W')
def postD {β : Type} (B N Y : Nat → Prop) (I : List β → (Nat → Prop) → (Nat → Prop) → World → Prop) (Ix : Code → List β → (Nat → Prop) → (Nat → Prop) → World → Prop) (xs : List β) (W : World) : Exit → Act → World → Prop
  | .normal, _, W' => ∃ B' N', Grew B B' W.heap.size W'.heap.size ∧ (∀ z, N' z → N z ∨ Y z) ∧ Holds B W W' ∧ I xs B' N' W'
  | .ret, _, W' => ∃ B' N', Grew B B' W.heap.size W'.heap.size ∧ (∀ z, N' z → N z ∨ Y z) ∧ Holds B W W' ∧ Ix .ret xs B' N' W'
  | .exit id, _, W' => ∃ B' N', Grew B B' W.heap.size W'.heap.size ∧ (∀ z, N' z → N z ∨ Y z) ∧ Holds B W W' ∧ Ix (.exit id) xs B' N' W'
  | .goto t, _, W' => ∃ B' N', Grew B B' W.heap.size W'.heap.size ∧ (∀ z, N' z → N z ∨ Y z) ∧ Holds B W W' ∧ Ix (.goto t) xs B' N' W'
  | .panic _, _, _ => False
  | .outgrown, _, _ => False

variable {F : Fence} {n : Nat} {P : Program}
theorem rangeD_law {α β : Type} {g : Operand} {ps : Array Tmp} {assign body : Code} {Q : Exit → Act → World → Prop} {a : Act} {w : World}
    (hro : F.round = none) (h1 : 1 ≤ n) {gf : Nat} {lb : Array Value} (hg : a.eval g = .func (.func gf) #[] lb) (hFg : F.fn gf) (eg : ∀ args w, (callFunc gf args).run P w = .ok (.enter gf args) w)
    {encs : α → Array Value} {key : α → β} {Good : α → (Nat → Prop) → World → Prop} {C B0 : Nat → Prop} {all : List β} (hseq : SeqD F (n - 1) P gf lb encs key Good C all w) (hps : ∀ x, (encs x).size = ps.size) (hC : ∀ b, C b → ¬ B0 b) (hCl : ∀ b, C b → b < w.heap.size) (hB0 : ∀ b, B0 b → b < w.heap.size)
    (I : List β → (Nat → Prop) → (Nat → Prop) → World → Prop) (Ix : Code → List β → (Nat → Prop) → (Nat → Prop) → World → Prop) (hI : ∀ pre B N A A', I pre B N A → Keep w.heap.size (fun z => B z ∨ N z) A A' → I pre B N A') (hIx : ∀ c pre B N A A', Ix c pre B N A → Keep w.heap.size (fun z => B z ∨ N z) A A' → Ix c pre B N A')
    (hG : ∀ x Y A A' l r, w.heap.size ≤ l → Good x Y A → A.heap[l]? = some (.loop r) → Holds (fun b => b = l) A A' → Good x Y A') (hIB : ∀ pre B N A, I pre B N A → ∀ z, B z → z < A.heap.size) (hGY : ∀ x Y A z, Good x Y A → Y z → ∃ cs T fr, A.heap[z]? = some (.cells cs T fr)) (h0 : I [] B0 (fun _ => False) w)
    (Ax : α → Nat → Act → World → Prop) (hAx : ∀ x s a' W l r o, Ax x s a' W → W.heap[l]? = some (.loop r) → Ax x s a' (W.putObj l o))
    (hassign : ∀ (l : Nat) (x : α) (Y : Nat → Prop) (W : World) (K : Act → World → Prop), Good x Y W → (∀ a' W', Below W.heap.size W W' → Ax x W.heap.size a' W' → K a' W') →
      assign.wpIn (F.inRound l) (n - 1 - 1) P (Exit.then K (fun _ _ _ => False)) { tmps := (ps.zip (encs x)).foldl (fun t (p, v) => t.setIfInBounds p v) a.tmps, defers := [] } W)
    (hbody : ∀ (l : Nat) (pre : List β) (x : α) (s : Nat) (a' : Act) (Y B N : Nat → Prop) (W : World), I pre B N W → pre ++ [key x] <+: all → Good x Y W → (∀ z, Y z → ¬ B z) → (∀ z, B z → z < s) → Ax x s a' W → (∃ r, W.heap[l]? = some (.loop r)) → ¬ B l → body.wpIn (F.inRound l) (n - 1 - 1) P (postD B N Y I Ix (pre ++ [key x]) W) a' W)
    (hdone : ∀ (D : Nat) (B N : Nat → Prop) (W : World), w.heap.size ≤ D → (∀ b, B b ∨ N b → b ≠ D) → I all B N W → W.heap[D]? = some (.deferred (some [])) → Q .normal { a with defers := { target := .collected D, args := #[] } :: a.defers } W)
    (hstop : ∀ (D : Nat) (c : Code) (pre : List β) (B N : Nat → Prop) (W : World), w.heap.size ≤ D → (∀ b, B b ∨ N b → b ≠ D) → pre <+: all → Ix c pre B N W → W.heap[D]? = some (.deferred (some [])) → c.wpIn F n P Q { a with defers := { target := .collected D, args := #[] } :: a.defers } W) :
    (Code.rangeFunc g ps assign body).wpIn F n P Q a w := by
  refine wpIn_rangeFunc (fun fn hfn => ?_)
  rw [hro]
  -- the record of the loop, in its three states
  let rec_ : LoopState → Option Code → Loop := fun st pe => { state := st, pending := pe, fn, tmps := a.tmps, params := ps, assign, body, defers := w.heap.size }
  let w1 := (w.alloc (.deferred (some []))).alloc (.loop (rec_ .ready none))
  have hs1 : w1.heap.size = w.heap.size + 2 := by simp [w1]
  have hb1 : Below w.heap.size w w1 := ((Below.refl _ w).alloc (Nat.le_refl _) _).alloc (by simp) _
  have hl1 : w1.heap[w.heap.size + 1]? = some (.loop (rec_ .ready none)) := by
    have := World.alloc_heap_new (w.alloc (.deferred (some []))) (.loop (rec_ .ready none))
    rwa [World.size_alloc] at this
  have hd1 : w1.heap[w.heap.size]? = some (.deferred (some [])) := (Below.heap_alloc _ _ _ (by simp)).trans (World.alloc_heap_new w _)
  refine ⟨w.heap.size + 1, [{ target := .collected w.heap.size, args := #[] }], w1, { target := .fn (.func gf) lb, args := #[.func (.yield (w.heap.size + 1)) #[] #[]] }, w1, gf,
    #[.func (.yield (w.heap.size + 1)) #[] #[]] ++ lb, w1, run_enterLoop_outer _ _ _ _ _, by simp only [resolve, hg]; simp [go_sem], fun f' hf' => by simp [Target.leads] at hf'; subst hf'; exact hFg, by simp [invoke, go_sem, eg], fun _ => h1, ?_⟩
  have still : ∀ {B : Nat → Prop} {A A' : World} {k : Nat} {o : Obj}, Keep w1.heap.size B A A' → k < w1.heap.size → A.heap[k]? = some o → A'.heap[k]? = some o := fun hb hk h => (hb.1.block _ hk).trans h
  refine (hseq (w.heap.size + 1)
    (fun pre B N W => ∃ B1 : Nat → Prop, (∀ z, B z ↔ B1 z ∨ z = w.heap.size + 1) ∧ I pre B1 N W ∧ W.heap[w.heap.size + 1]? = some (.loop (rec_ .ready none)) ∧ W.heap[w.heap.size]? = some (.deferred (some [])) ∧ ∀ b, B1 b ∨ N b → b < w.heap.size ∨ w.heap.size + 2 ≤ b)
    (fun pre B N W => ∃ (B1 : Nat → Prop) (c : Code), (∀ z, B z ↔ B1 z ∨ z = w.heap.size + 1) ∧ Ix c pre B1 N W ∧ W.heap[w.heap.size + 1]? = some (.loop (rec_ .done (some c))) ∧ W.heap[w.heap.size]? = some (.deferred (some [])) ∧ ∀ b, B1 b ∨ N b → b < w.heap.size ∨ w.heap.size + 2 ≤ b)
    (fun z => B0 z ∨ z = w.heap.size + 1) w1 hb1 (fun b hb h => h.elim (hC b hb) (fun e => by have := hCl b hb; omega)) (fun b hb => hb.elim (fun hb => by have := hB0 b hb; omega) (fun e => by omega)) (fun pre B N A A' h hb => by
      obtain ⟨B1, h0, h1, h2, h3, h4⟩ := h
      exact ⟨B1, h0, hI pre B1 N A A' h1 (hb.mono (by omega) (fun z h => h.imp (fun h => (h0 z).2 (Or.inl h)) id)), still hb (by omega) h2, still hb (by omega) h3, h4⟩) (fun pre B N A A' h hb => by
      obtain ⟨B1, c, h0, h1, h2, h3, h4⟩ := h
      exact ⟨B1, c, h0, hIx c pre B1 N A A' h1 (hb.mono (by omega) (fun z h => h.imp (fun h => (h0 z).2 (Or.inl h)) id)), still hb (by omega) h2, still hb (by omega) h3, h4⟩) ?_ ⟨B0, fun _ => Iff.rfl, hI _ _ _ _ _ h0 (.of_below (Nat.le_refl _) hb1), hl1, hd1, fun b hb => Or.inl (hb.elim (hB0 b) False.elim)⟩).mono ?_
  · -- one round
    rintro pre x Y BL N W ⟨B, hBe, hi, hl, hd, hBl⟩ hpre hgood hYB0
    have hYB : ∀ z, Y z → ¬ B z := fun z hz hb => hYB0 z hz ((hBe z).2 (Or.inl hb))
    have hy := run_yield (P := P) (args := encs x) hl (hps x)
    refine ⟨fn, _, assign, body, hy, roundIn_of_wpIn hfn (hassign _ x Y W _ hgood (fun a' Wa hba hax => ?_))⟩
    have hlt : w.heap.size + 1 < W.heap.size := (Array.getElem?_eq_some_iff.1 hl).1
    have hla : Wa.heap[w.heap.size + 1]? = some (.loop (rec_ .ready none)) := (hba.block _ hlt).trans hl
    have hda : Wa.heap[w.heap.size]? = some (.deferred (some [])) := (hba.block _ (by omega)).trans hd
    refine ⟨_, run_beginRound hla rfl, ?_⟩
    have hlta : w.heap.size + 1 < Wa.heap.size := (Array.getElem?_eq_some_iff.1 hla).1
    let busy : Loop := { rec_ .ready none with state := .busy }
    let Wb := Wa.putObj (w.heap.size + 1) (.loop busy)
    have hbb : Below w.heap.size Wa Wb := below_putObj _ _ _ _ (by omega)
    have hlb : Wb.heap[w.heap.size + 1]? = some (.loop busy) := World.putObj_heap_same hlta
    have hdb : Wb.heap[w.heap.size]? = some (.deferred (some [])) := (World.putObj_heap_other (by omega)).trans hda
    have hszb : Wb.heap.size = Wa.heap.size := by simp [Wb]
    have hwa := hba.size
    have hkw : Keep w.heap.size (fun z => B z ∨ N z) W Wb := ⟨(hba.mono (Nat.le_of_lt (by omega : w.heap.size < W.heap.size))).trans hbb, fun b hb hl' => by
      rw [World.putObj_heap_other (by have := hBl b hb; omega)]
      exact hba.block b hl'⟩
    have hol : Holds (fun b => b = w.heap.size + 1) W Wb := ⟨by omega, fun b hb hc => by rw [World.putObj_heap_other hc]; exact hba.block b hb⟩
    have hnl : ¬ B (w.heap.size + 1) := fun h => by have := hBl _ (Or.inl h); omega
    have hnd : ¬ B w.heap.size := fun h => by have := hBl _ (Or.inl h); omega
    refine wpIn_mono (hbody _ pre x W.heap.size a' Y B N Wb (hI _ _ _ _ _ hi hkw) hpre (hG _ _ _ _ _ _ (Nat.le_succ _) hgood hl hol) hYB (hIB _ _ _ _ hi) (hAx _ _ _ _ _ _ _ hax hla) ⟨_, hlb⟩ hnl) ?_
    have fin : ∀ (jump : Option Code) (W3 : World), Holds B Wb W3 →
        (Instr.endRound (w.heap.size + 1) jump).run P W3 = .ok (.bool jump.isNone) (W3.putObj (w.heap.size + 1) (.loop (rec_ (if jump.isNone then .ready else .done) jump))) ∧
        Below w.heap.size W3 (W3.putObj (w.heap.size + 1) (.loop (rec_ (if jump.isNone then .ready else .done) jump))) ∧
        (W3.putObj (w.heap.size + 1) (.loop (rec_ (if jump.isNone then .ready else .done) jump))).heap[w.heap.size + 1]? = some (.loop (rec_ (if jump.isNone then .ready else .done) jump)) ∧
        (W3.putObj (w.heap.size + 1) (.loop (rec_ (if jump.isNone then .ready else .done) jump))).heap[w.heap.size]? = some (.deferred (some [])) := fun jump W3 hk => by
      have hwb : Wb.heap.size = Wa.heap.size := by simp [Wb]
      have h3 : W3.heap[w.heap.size + 1]? = some (.loop busy) := (hk.2 _ (by omega) hnl).trans hlb
      have hd3 : W3.heap[w.heap.size]? = some (.deferred (some [])) := (hk.2 _ (by omega) hnd).trans hdb
      exact ⟨run_endRound (P := P) jump h3, below_putObj _ _ _ _ (by omega), World.putObj_heap_same (Array.getElem?_eq_some_iff.1 h3).1, (World.putObj_heap_other (by omega)).trans hd3⟩
    have bl' : ∀ (B' N' : Nat → Prop) (m : Nat), Grew B B' Wb.heap.size m → (∀ z, N' z → N z ∨ Y z) → ∀ b, B' b ∨ N' b → b < w.heap.size ∨ w.heap.size + 2 ≤ b := fun B' N' m hg hN b hb => by
      rcases hb with hb | hb
      · rcases (hg b hb).1 with h1 | h1
        · exact hBl b (Or.inl h1)
        · exact Or.inr (by omega)
      · rcases hN b hb with h1 | h1
        · exact hBl b (Or.inr h1)
        · obtain ⟨cs, T, fr, hc⟩ := hGY x Y W b hgood h1
          by_cases e1 : b = w.heap.size
          · subst e1; rw [hd] at hc; cases hc
          · by_cases e2 : b = w.heap.size + 1
            · subst e2; rw [hl] at hc; cases hc
            · omega
    have gw : ∀ (B' : Nat → Prop) (W3 : World) (o : Obj), Holds B Wb W3 → Grew B B' Wb.heap.size W3.heap.size → Grew BL (fun z => B' z ∨ z = w.heap.size + 1) W.heap.size (W3.putObj (w.heap.size + 1) o).heap.size := fun B' W3 o hk hg b hb => by
      have hk1 := hk.1
      rcases hb with hb | rfl
      · obtain ⟨h1, h2⟩ := hg b hb
        exact ⟨h1.imp (fun h => (hBe b).2 (Or.inl h)) (fun h => by omega), by simpa using h2⟩
      · exact ⟨Or.inl ((hBe _).2 (Or.inr rfl)), by simp; omega⟩
    have hold : ∀ (W3 : World) (o : Obj), Holds B Wb W3 → Holds BL W (W3.putObj (w.heap.size + 1) o) := fun W3 o hk => by
      have hk1 := hk.1
      refine ⟨by simp; omega, fun b hb hc => ?_⟩
      have e : b ≠ w.heap.size + 1 := fun e => hc ((hBe b).2 (Or.inr e))
      rw [World.putObj_heap_other e, hk.2 b (by omega) (fun h => hc ((hBe b).2 (Or.inl h))), World.putObj_heap_other e, hba.block b hb]
    rintro e a3 W3 hp
    cases e with
    | normal =>
      obtain ⟨B', N', hgr, hN, hk, hi3⟩ := hp
      obtain ⟨hr, hb3, hl3, hd3⟩ := fin none W3 hk
      have hBl' := bl' B' N' _ hgr hN
      exact ⟨_, _, hr, fun z => B' z ∨ z = w.heap.size + 1, N', gw B' _ _ hk hgr, hN, .inl ⟨rfl, ⟨B', fun _ => Iff.rfl, hI _ _ _ _ _ hi3 ⟨hb3, fun b hb _ => World.putObj_heap_other (by have := hBl' b hb; omega)⟩, hl3, hd3, hBl'⟩, hold W3 _ hk⟩⟩
    | ret =>
      obtain ⟨B', N', hgr, hN, hk, hi3⟩ := hp
      obtain ⟨hr, hb3, hl3, hd3⟩ := fin (some .ret) W3 hk
      have hBl' := bl' B' N' _ hgr hN
      exact ⟨_, _, hr, fun z => B' z ∨ z = w.heap.size + 1, N', gw B' _ _ hk hgr, hN, .inr ⟨rfl, ⟨B', _, fun _ => Iff.rfl, hIx _ _ _ _ _ _ hi3 ⟨hb3, fun b hb _ => World.putObj_heap_other (by have := hBl' b hb; omega)⟩, hl3, hd3, hBl'⟩, hold W3 _ hk⟩⟩
    | exit id =>
      obtain ⟨B', N', hgr, hN, hk, hi3⟩ := hp
      obtain ⟨hr, hb3, hl3, hd3⟩ := fin (some (.exit id)) W3 hk
      have hBl' := bl' B' N' _ hgr hN
      exact ⟨_, _, hr, fun z => B' z ∨ z = w.heap.size + 1, N', gw B' _ _ hk hgr, hN, .inr ⟨rfl, ⟨B', _, fun _ => Iff.rfl, hIx _ _ _ _ _ _ hi3 ⟨hb3, fun b hb _ => World.putObj_heap_other (by have := hBl' b hb; omega)⟩, hl3, hd3, hBl'⟩, hold W3 _ hk⟩⟩
    | goto t =>
      obtain ⟨B', N', hgr, hN, hk, hi3⟩ := hp
      obtain ⟨hr, hb3, hl3, hd3⟩ := fin (some (.goto t)) W3 hk
      have hBl' := bl' B' N' _ hgr hN
      exact ⟨_, _, hr, fun z => B' z ∨ z = w.heap.size + 1, N', gw B' _ _ hk hgr, hN, .inr ⟨rfl, ⟨B', _, fun _ => Iff.rfl, hIx _ _ _ _ _ _ hi3 ⟨hb3, fun b hb _ => World.putObj_heap_other (by have := hBl' b hb; omega)⟩, hl3, hd3, hBl'⟩, hold W3 _ hk⟩⟩
    | panic ch => exact hp.elim
    | outgrown => exact hp.elim
  · -- the iterator has returned
    rintro e W2 ⟨⟨v, rfl⟩, (⟨BL, N', B', hBe, hi, hl, hd, hBl⟩ | ⟨pre, BL, N', hpre, B', c, hBe, hi, hl, hd, hBl⟩)⟩
    · exact ⟨none, _, run_endLoop (P := P) hl (by simp [rec_]), hdone _ B' N' _ (Nat.le_refl _) (fun b hb e => by have := hBl b hb; omega) (hI _ _ _ _ _ hi ⟨below_putObj _ _ _ _ (by omega), fun b hb _ => World.putObj_heap_other (by have := hBl b hb; omega)⟩) ((World.putObj_heap_other (by omega)).trans hd)⟩
    · exact ⟨some c, _, run_endLoop (P := P) hl (by simp [rec_]), hstop _ c pre B' N' _ (Nat.le_refl _) (fun b hb e => by have := hBl b hb; omega) hpre (hIx _ _ _ _ _ _ hi ⟨below_putObj _ _ _ _ (by omega), fun b hb _ => World.putObj_heap_other (by have := hBl b hb; omega)⟩) ((World.putObj_heap_other (by omega)).trans hd)⟩
end Go.Proofs.YtingnigiijdllaaDoor
namespace Go.Proofs.YtingnigiijdllaaDoor
open Go Go.RowKit Go.Shelf
attribute [local go_sem] Oper.semAt_some

def GoodND (C : Nat → Prop) (x : Tm × Value × Nat) (Y : Nat → Prop) (W : World) : Prop := NM W C x.1 x.2.1 ∧ ∀ z, ¬ Y z
structure MidD (W wr : World) (C Ct : Nat → Prop) (t : Tm) (tp : Option Addr) (tc : Nat) (rp : Option Addr) (rc : Nat) (p : Option Addr) (c : Nat) (J : List (Tm × Nat) → (Nat → Prop) → (Nat → Prop) → World → Prop) (B N : Nat → Prop) (pre : List (Tm × Nat)) (st : WaitM) (g cap : Nat) : Prop where
  own : wr.ownsRow (W.heap.size + 1) 33 1 (.slice (some ⟨g, 0, none⟩) st.length cap) st.length (st.map (·.2))
  j : J pre B N wr
  ts : ∀ e ∈ st, LM W Ct e.1 e.2 ∨ e = ([t], .slice (some ⟨W.heap.size, 0, none⟩) 1 1)
  stays : Stays C W wr
  size : W.heap.size ≤ wr.heap.size
  root : wr.heap[W.heap.size]? = some (.cells (tmC t tp tc rp rc p c) 35 (0, 0))
  node : TM' W Ct t tp tc rp rc p c
  cnt : st.length ≤ pre.length + 1
  bl : ∀ b, B b → b < wr.heap.size ∧ b ≠ g ∧ b ≠ W.heap.size ∧ ¬ C b
  nz : ∀ z, ¬ N z
  sub : ∀ z, Ct z → C z

theorem MidD.lt {W wr : World} {C Ct : Nat → Prop} {t : Tm} {tp : Option Addr} {tc : Nat} {rp : Option Addr} {rc : Nat} {p : Option Addr} {c : Nat} {J : List (Tm × Nat) → (Nat → Prop) → (Nat → Prop) → World → Prop} {B N : Nat → Prop} {pre : List (Tm × Nat)} {st : WaitM} {g cap : Nat} (h : MidD W wr C Ct t tp tc rp rc p c J B N pre st g cap) : W.heap.size < wr.heap.size := (Array.getElem?_eq_some_iff.1 h.root).1
theorem MidD.open {W wr : World} {C Ct : Nat → Prop} {t : Tm} {tp : Option Addr} {tc : Nat} {rp : Option Addr} {rc : Nat} {p : Option Addr} {c : Nat} {J : List (Tm × Nat) → (Nat → Prop) → (Nat → Prop) → World → Prop} {B N : Nat → Prop} {pre : List (Tm × Nat)} {st : WaitM} {g cap : Nat} {x : Tm} {l : List Tm} {v : Value} (h : MidD W wr C Ct t tp tc rp rc p c J B N pre (st ++ [(x :: l, v)]) g cap) :
    ∃ (b o c : Nat) (tp' : Option Addr) (tc' : Nat) (rp' : Option Addr) (rc' : Nat) (p' : Option Addr) (c' : Nat), v = .slice (some ⟨b, o, none⟩) (l.length + 1) c ∧ l.length + 1 ≤ c ∧ c ≤ 9223372036854775807 ∧ (Ct b ∨ b = W.heap.size) ∧ b < wr.heap.size ∧
      At9 wr b o x tp' tc' rp' rc' p' c' ∧ TM' W Ct x tp' tc' rp' rc' p' c' ∧ ∀ q, (l ≠ [] → q = some ⟨b, o + 9, none⟩) → LM W Ct l (.slice q l.length (c - 1)) := by
  rcases h.ts (x :: l, v) (by simp) with hT | he
  · simp only at hT
    obtain ⟨q0, d0, hv0⟩ := hT.form
    have hT0 := hT
    rw [hv0] at hT0
    obtain ⟨b', o', tp', tc', rp', rc', p', c', hq, hC', hb', h9, hx⟩ := tm_part hT0 0 (by simp)
    cases hT with
    | @rows _ _ _ b o c _ V h1 hc hm hl hC hb hv hr =>
      simp only [Value.slice.injEq] at hv0
      obtain ⟨e1, _, _⟩ := hv0
      have e2 := e1.trans hq
      simp only [Option.some.injEq, Addr.mk.injEq] at e2
      obtain ⟨rfl, rfl, _⟩ := e2
      have h9' := h9 wr ⟨h.stays.1, fun z hz hl => h.stays.2 z (h.sub z hz) hl⟩
      rw [Nat.zero_mul, Nat.add_zero] at h9'
      refine ⟨b, o, c, tp', tc', rp', rc', p', c', rfl, hc, hm, Or.inl hC, Nat.lt_of_lt_of_le hb h.size, h9', hx, fun q hq => ?_⟩
      have hf : flatTm (x :: l) = x.ds ++ flatTm l := rfl
      have hsh : ∀ i, (flatTm (x :: l))[i + 9]? = (flatTm l)[i]? := fun i => by
        rw [hf, List.getElem?_append_right (by rw [x.ds_len]; omega), x.ds_len, Nat.add_sub_cancel]
      by_cases hl' : l = []
      · subst hl'; exact .nil _ _ _ _
      · rw [hq hl']
        have hl1 : 1 ≤ l.length := by cases l with | nil => exact absurd rfl hl' | cons => simp
        simp only [List.length_cons] at hc
        refine .rows (fun i => V (i + 9)) hl1 (by omega) (by omega) (flatTm_len l) hC hb (fun i d hi => ?_) (fun i d hi => hr (i + 9) d (by rw [hsh]; exact hi))
        have := hv (i + 9) d (by rw [hsh]; exact hi)
        rw [show o + (i + 9) = o + 9 + i by omega] at this; exact this
  · simp only [Prod.mk.injEq, List.cons.injEq] at he
    obtain ⟨⟨rfl, rfl⟩, rfl⟩ := he
    refine ⟨W.heap.size, 0, 1, tp, tc, rp, rc, p, c, rfl, by simp, by omega, Or.inr rfl, h.lt, ?_, h.node, fun q hq => ?_⟩
    · have hr := h.root
      exact ⟨cell_of_blk hr 0, cell_of_blk hr 1, cell_of_blk hr 2, cell_of_blk hr 3, cell_of_blk hr 4, cell_of_blk hr 5, cell_of_blk hr 6, cell_of_blk hr 7, cell_of_blk hr 8⟩
    · exact .nil _ _ _ _

set_option maxRecDepth 100000 in
set_option maxHeartbeats 4000000 in
theorem nodesD_it (l Bt Bp : Nat) (t : Tm) (tp : Option Addr) (tc : Nat) (rp : Option Addr) (rc : Nat) (p : Option Addr) (c : Nat) (C Ct B0 : Nat → Prop) (W : World) (J Jx : List (Tm × Nat) → (Nat → Prop) → (Nat → Prop) → World → Prop)
    (hBt : W.heap[Bt]? = some (.cells (tmC t tp tc rp rc p c) 35 (0, 0))) (hBp : W.heap[Bp]? = some (.cells #[.func (.func 65) #[] #[]] 75 (0, 0))) (hT : TM' W Ct t tp tc rp rc p c) (hn : t.nodes ≤ 2097153)
    (hC : ∀ b, C b → b < W.heap.size) (hCB : ∀ b, C b → ¬ B0 b) (hB0 : ∀ b, B0 b → b < W.heap.size) (hCp : C Bp) (hCt : ∀ z, Ct z → C z)
    (hJ : ∀ pre B N A A', J pre B N A → Keep W.heap.size (fun z => B z ∨ N z) A A' → J pre B N A')
    (hY : ∀ pre x Y B N W1, J pre B N W1 → pre ++ [keyNM x] <+: walkM t 1 → GoodND Ct x Y W1 → (∀ z, Y z → ¬ B z) → YieldAt Fence.wide 0 Tryd.prog l (encNM x) W1 fun e W' =>
      ∃ B' N', Grew B B' W1.heap.size W'.heap.size ∧ (∀ z, N' z → N z ∨ Y z) ∧ ((e = .returned (.bool true) ∧ J (pre ++ [keyNM x]) B' N' W' ∧ Holds B W1 W') ∨ (e = .returned (.bool false) ∧ Jx (pre ++ [keyNM x]) B' N' W' ∧ Holds B W1 W')))
    (h0 : J [] B0 (fun _ => False) W) :
    CallsIn Fence.wide 1 Tryd.prog 97 #[.func (.yield l) #[] #[], .pointer (some ⟨Bt, 0, none⟩), .pointer (some ⟨Bp, 0, none⟩)] W fun e W' =>
      (∃ v, e = .returned v) ∧ ((∃ B' N', J (walkM t 1) B' N' W') ∨ ∃ pre B' N', pre <+: walkM t 1 ∧ Jx pre B' N' W') := by
  obtain ⟨i0, hi, hz0, hz1, hz2⟩ := info_parts infoLM
  have HT := Lib.hid hT
  have HY := Lib.hid hY
  have HJ := Lib.hid hJ
  have HJ0 := Lib.hid h0
  have HCB := Lib.hid hCB
  have HB0 := Lib.hid hB0
  have HC := Lib.hid hC
  have HCP := Lib.hid hCp
  have HBP := Lib.hid hBp
  have HN := Lib.hid hn
  obtain ⟨k0, k1, k2, k3, k4, k5, k6, k7, k8⟩ := Bx9.of hBt
  have kp := cell_of_blk hBp 0
  simp only [List.getElem?_toArray, List.getElem?_cons_zero] at kp
  have HSUB := Lib.hid hCt
  clear hT hY hJ h0 hCB hB0 hC hBt hBp hn hCt
  refine callsIn_of_wp Tryd.func97 rfl trivial ?_ rfl
  simp only [Tryd.ntmps97, List.size_toArray, List.length_cons, List.length_nil, Nat.reduceAdd, Nat.reduceSub, Array.replicate_succ, Array.replicate_zero, List.push_toArray, List.append_toArray, List.nil_append, List.cons_append]
  gi_wp2_with fail
  gi_loopg [4] (2 * (walkM t 1).length + 1) (fun k v wr => ∃ (pre : List (Tm × Nat)) (st : WaitM) (g cap : Nat) (B N : Nat → Prop), v = .slice (some ⟨g, 0, none⟩) st.length cap ∧ k = 2 * (stWalkM st).length + st.length ∧ pre ++ stWalkM st = walkM t 1 ∧ MidD W wr C Ct t tp tc rp rc p c J B N pre st g cap)
  case atStart =>
    refine ⟨[], [([t], .slice (some ⟨W.heap.size, 0, none⟩) 1 1)], W.heap.size + 1, 1, B0, fun _ => False, rfl, by simp [stWalkM, rWM, walkSM_one], by simp [stWalkM, rWM, walkSM_one], ?_⟩
    have hb : Below W.heap.size W ((W.alloc (.cells (tmC t tp tc rp rc p c) 35)).alloc (.cells #[.slice (some ⟨W.heap.size, 0, none⟩) 1 1] 33)) := ((Below.refl _ W).alloc (Nat.le_refl _) _).alloc (by simp) _
    refine ⟨?_, HJ.out _ _ _ _ _ HJ0.out (.of_below (Nat.le_refl _) hb), ?_, .of_below hb, hb.size, ?_, HT.out, by simp, fun b hb' => ?_, fun z hz => hz, HSUB.out⟩
    · have h1 := World.ownsRow_lit (base := W.heap.size + 1) (e := 33) (size := 1) (W.alloc (.cells (tmC t tp tc rp rc p c) 35)) #[.slice (some ⟨W.heap.size, 0, none⟩) 1 1] 1 (by simp) (by unfold maxLen; omega) rfl
      rw [show (W.alloc (.cells (tmC t tp tc rp rc p c) 35)).heap.size = W.heap.size + 1 by simp] at h1
      exact h1
    · intro e he
      simp only [List.mem_singleton] at he
      exact Or.inr he
    · rw [Below.heap_alloc _ _ _ (by simp)]
      exact blk_new _ _
    · have := HB0.out b hb'
      exact ⟨Nat.lt_of_lt_of_le this hb.size, by omega, by omega, fun h => HCB.out b h hb'⟩
  case round =>
    rename World => wo
    obtain ⟨pre, st, g, cap, B, N, rfl, rfl, hord, hM⟩ := hrel
    rcases snoc_cases st with rfl | ⟨st0, ⟨ls, sl⟩, rfl⟩
    · have HM := Lib.hid hM
      have HO := Lib.hid hord
      clear hM hord
      gi_wp2
      go_end0
      have hp : pre = walkM t 1 := by have := HO.out; simpa [stWalkM, rWM] using this
      exact ⟨⟨_, rfl⟩, .inl ⟨B, N, hp ▸ HM.out.j⟩⟩
    · have hlen : (st0 ++ [((ls, sl) : List Tm × Value)]).length = st0.length + 1 := by simp
      have hown := hM.own
      rw [hlen] at hown
      rw [hlen]
      obtain ⟨hcap1, hcap2, hg1, hg2⟩ := row_cap hown
      have k0 := (hown.cellAt st0.length (by omega)).trans (wsndM_last st0 _)
      have kz := hown.frozenAt st0.length
      simp only at k0
      unfold maxLen at hcap2
      have i0' : (0 : Int) ≤ (st0.length : Int) := Int.natCast_nonneg _
      have i1' : (st0.length : Int) < ((st0.length : Int) + 1) := by omega
      have hcnt : st0.length ≤ 2097153 := by
        have h1 := hM.cnt
        have h2 := congrArg List.length hord
        have h3 := HN.out
        rw [List.length_append, walkM_length] at h2
        rw [hlen] at h1
        omega
      cases ls with
      | nil =>
        have HM := Lib.hid hM
        have HO := Lib.hid hord
        have HOWN := Lib.hid hown
        obtain ⟨a, c0, hsl⟩ : ∃ a c, sl = .slice a 0 c := by
          rcases hM.ts ([], sl) (by simp) with h1 | h1
          · exact h1.form
          · simp at h1
        subst hsl
        clear hM hord hown
        gi_wp2_with fail
        go_roundg (2 * (stWalkM st0).length + st0.length)
        case rel =>
          have h1 := row_take HOWN.out (Nat.le_succ st0.length)
          rw [wsndM_take] at h1
          refine ⟨pre, st0, g, cap, B, N, rfl, rfl, by have := HO.out; rwa [stWalkM_snoc] at this, h1, HM.out.j, fun e he => HM.out.ts e (List.mem_append_left _ he), HM.out.stays, HM.out.size, HM.out.root, HM.out.node, ?_, HM.out.bl, HM.out.nz, HSUB.out⟩
          have := HM.out.cnt
          rw [List.length_append] at this
          omega
        case measure =>
          rw [stWalkM_snoc, List.length_append, List.length_append]
          simp only [walkSM, List.length_nil, List.length_singleton]
          omega
      | cons x ls =>
        obtain ⟨b, o, c0, tp', tc', rp', rc', p', c', rfl, hlc, hc63, hbC, hbw, hcell, hnx, htail⟩ := hM.open
        have hbg : b ≠ g := by
          have h1 := hg1
          rcases hbC with h2 | h2
          · have := HC.out b (HSUB.out b h2)
            omega
          · omega
        obtain ⟨q, hq⟩ : ∃ q, (if c0 = 1 then some (⟨b, o, none⟩ : Addr) else some ⟨b, o + 9, none⟩) = q := ⟨_, rfl⟩
        have htl : LM W Ct ls (.slice q ls.length (c0 - 1)) := htail q (fun hne => by
          have h1 : 1 ≤ ls.length := by cases ls with | nil => exact absurd rfl hne | cons => simp
          rw [← hq, if_neg (by omega)])
        obtain ⟨hst, hgr⟩ := hown.stored st0.length (.slice q ls.length (c0 - 1))
        rw [wsndM_set st0 _ ls] at hst
        have hb1 : Below (W.heap.size + 1) wo (wo.setCell ⟨g, st0.length, none⟩ (.slice q ls.length (c0 - 1))) := (Below.refl _ wo).setCell (p := ⟨g, st0.length, none⟩) hg1 _
        have hcC : ∀ z, C z → z < W.heap.size := HC.out
        have hst1 : Stays C W (wo.setCell ⟨g, st0.length, none⟩ (.slice q ls.length (c0 - 1))) := hM.stays.trans ⟨hb1.size, fun z hz _ => hb1.block z (by have := hcC z hz; omega)⟩
        have hpre : pre ++ [(x, st0.length + 1)] <+: walkM t 1 := ⟨walkSM x.args (st0.length + 1 + 1) ++ (walkSM ls (st0.length + 1) ++ stWalkM st0), by rw [← hord, stWalkM_snoc]; simp only [walkSM, walkM_eq, List.cons_append, List.append_assoc, List.nil_append]⟩
        obtain ⟨fn, tmps, assign, body, hy, hR⟩ := HY.out pre (x, tmV x tp' tc' rp' rc' p' c', st0.length + 1) (fun _ => False) B N _ (HJ.out _ _ _ _ _ hM.j ⟨hb1.mono (by omega), fun z hz _ => Below.heap_setCell _ _ _ _ (by
          rcases hz with hz | hz
          · exact (hM.bl z hz).2.1
          · exact absurd hz (hM.nz z))⟩) hpre ⟨ntM_mk (hnx.stays ⟨hst1.1, fun z hz hl => hst1.2 z (HSUB.out z hz) hl⟩), fun z hz => hz⟩ (fun z hz => hz.elim)
        simp only [encNM] at hy
        rw [show ((st0.length + 1 : Nat) : Int) = (st0.length : Int) + 1 from rfl] at hy
        have hroot : (wo.setCell ⟨g, st0.length, none⟩ (.slice q ls.length (c0 - 1))).heap[W.heap.size]? = some (.cells (tmC t tp tc rp rc p c) 35 (0, 0)) := (hb1.block _ (by omega)).trans hM.root
        have HM := Lib.hid hM
        have HO := Lib.hid hord
        have HST := Lib.hid hst
        have HB1 := Lib.hid hb1
        have HST1 := Lib.hid hst1
        have HPRE := Lib.hid hpre
        have HR := Lib.hid hR
        have HTL := Lib.hid htl
        have HNX := Lib.hid hnx
        have HBC := Lib.hid hbC
        have HROOT := Lib.hid hroot
        have HQ := Lib.hid hlc
        obtain ⟨f0, f1, f2, f3, f4, f5, f6, f7, f8⟩ := hcell
        have hl1 : (1 : Int) ≤ ((ls.length : Int) + 1) := by omega
        clear hM hord hown hst hgr hb1 hst1 hpre hR htl htail hnx hbC hcC hroot
        gi_wp2_with fail
        refine HR.out.mono ?_
        rintro e W3 ⟨B', N', hgrew, hN', ⟨rfl, hJ3, hH3⟩ | ⟨rfl, hJx3, -⟩⟩
        · have hbnC : ¬ B b := fun hc => by
            obtain ⟨_, _, h3, h4⟩ := HM.out.bl b hc
            exact HBC.out.elim (fun h => h4 (HSUB.out b h)) h3
          have hgnC : ¬ B g := fun hc => (HM.out.bl g hc).2.1 rfl
          have hnC : ∀ z, C z → ¬ B z := fun z hz hb => (HM.out.bl z hb).2.2.2 hz
          have hse : (wo.setCell ⟨g, st0.length, none⟩ (.slice q ls.length (c0 - 1))).heap.size = wo.heap.size := by simp [World.setCell]
          rw [hse] at hgrew
          have hs1 := HB1.out.size
          have hb3 : W3.heap[b]? = wo.heap[b]? := (hH3.2 b (by omega) hbnC).trans (Below.heap_setCell _ _ _ _ hbg)
          have hp3 : W3.heap[Bp]? = W.heap[Bp]? := by
            have h1 := HC.out Bp hCp
            have h2 := HM.out.size
            rw [hH3.2 Bp (by omega) (hnC Bp hCp)]
            exact HST1.out.2 Bp hCp h1
          have hown3 := row_of_block HST.out (hH3.2 g (by omega) hgnC)
          have hr3 : W3.heap[W.heap.size]? = some (.cells (tmC t tp tc rp rc p c) 35 (0, 0)) := by
            rw [hH3.2 W.heap.size (by have := HM.out.lt; omega) (fun hc => (HM.out.bl _ hc).2.2.1 rfl)]
            exact HROOT.out
          have hlen3 : (st0 ++ [(ls, Value.slice q ls.length (c0 - 1))]).length = st0.length + 1 := by simp
          have hM3 : MidD W W3 C Ct t tp tc rp rc p c J B' N' (pre ++ [(x, st0.length + 1)]) (st0 ++ [(ls, .slice q ls.length (c0 - 1))]) g cap := by
            refine ⟨?_, hJ3, fun e he => ?_, HST1.out.trans ⟨hH3.1, fun z hz hl => hH3.2 z hl (hnC z hz)⟩, ?_, hr3, HM.out.node, ?_, fun z hz => ?_, fun z hz => (hN' z hz).elim (HM.out.nz z) (fun h => h), HSUB.out⟩
            · rw [hlen3]; exact hown3
            · rcases List.mem_append.1 he with he | he
              · exact HM.out.ts e (List.mem_append_left _ he)
              · simp only [List.mem_singleton] at he
                subst he
                exact Or.inl HTL.out
            · have := hH3.1
              have := HM.out.size
              omega
            · have := HM.out.cnt
              rw [hlen] at this
              rw [hlen3, List.length_append, List.length_singleton]
              omega
            · obtain ⟨h1, h2⟩ := hgrew z hz
              rcases h1 with h1 | h1
              · exact ⟨h2, (HM.out.bl z h1).2⟩
              · exact ⟨h2, by omega, by have := HM.out.lt; omega, fun h => by have := HC.out z h; have := HM.out.size; omega⟩
          have g0 := (World.cell?_of_block (a := ⟨b, o, none⟩) hb3).trans f0
          have g1 := (World.cell?_of_block (a := ⟨b, o + 1, none⟩) hb3).trans f1
          have g2 := (World.cell?_of_block (a := ⟨b, o + 2, none⟩) hb3).trans f2
          have g3 := (World.cell?_of_block (a := ⟨b, o + 3, none⟩) hb3).trans f3
          have g4 := (World.cell?_of_block (a := ⟨b, o + 4, none⟩) hb3).trans f4
          have g5 := (World.cell?_of_block (a := ⟨b, o + 5, none⟩) hb3).trans f5
          have g6 := (World.cell?_of_block (a := ⟨b, o + 6, none⟩) hb3).trans f6
          have g7 := (World.cell?_of_block (a := ⟨b, o + 7, none⟩) hb3).trans f7
          have g8 := (World.cell?_of_block (a := ⟨b, o + 8, none⟩) hb3).trans f8
          have kp3 := cell_of_blk (hp3.trans HBP.out) 0
          simp only [List.getElem?_toArray, List.getElem?_cons_zero] at kp3
          have HM3 := Lib.hid hM3
          have HOWN3 := Lib.hid hown3
          have hsz3 := hM3.lt
          clear hJ3 hH3 hown3 hM3 hy HR k0 kz hb3 hp3 hr3 hbnC hgnC hnC hse hgrew hN' f0 f1 f2 f3 f4 f5 f6 f7 f8 HB1 HST1 HST
          gi_wp2_with fail
          refine wpIn_wide.2 ?_
          go_region_law (first
            | (refine step_app1 (w0 := w1) (base := W.heap.size + 1) (v := .slice (some ⟨g, 0, none⟩) (st0.length + 1) cap) (n := st0.length + 1) (xs := (st0 ++ [(ls, Value.slice q ls.length (c0 - 1))]).map (·.2)) (cs := [.slice p' x.args.length c']) rfl (.tmp 40) (.tmp 46) rfl Tryd.underlying112 hi hz0 hz1 hz2 rfl (by decide) rfl (row_below HOWN3.out ((Below.refl W3.heap.size W3).drew.trans hb1)) _ rfl (by simp) rfl (fun u hu => by simp at hu; subst hu; rfl) (by unfold maxLen; omega) (by omega) (by have := hb1.size; simp at this; omega) ?_; intro w' g2 cap2 hA)
            | (go_simp; go_at_call 65; refine (argsM_any _ _ _ _ _ _ _ _).mono ?_; rintro e w1 ⟨rfl, hb1⟩))
          all_goals
            have HA := Lib.hid hA
            have HB := Lib.hid hb1
            clear hA hb1
            gi_wp2_with fail
            go_roundg (2 * (stWalkM ((st0 ++ [(ls, Value.slice q ls.length (c0 - 1))]) ++ [(x.args, .slice p' x.args.length c')])).length + (st0.length + 2))
            case rel =>
              have hb3 : Below W3.heap.size W3 w1 := (Below.refl W3.heap.size W3).drew.trans HB.out
              have hlen3 : (st0 ++ [(ls, Value.slice q ls.length (c0 - 1))]).length = st0.length + 1 := by simp
              have hg3 := (row_cap HOWN3.out).2.2
              have hs3 := hb3.size
              have hbw : Below (W.heap.size + 1) W3 w' := (hb3.mono (by omega)).trans HA.out.below
              refine ⟨pre ++ [(x, st0.length + 1)], (st0 ++ [(ls, .slice q ls.length (c0 - 1))]) ++ [(x.args, .slice p' x.args.length c')], g2, cap2, B', N', by rw [List.length_append, hlen3]; rfl, by rw [List.length_append, hlen3]; rfl, ?_, ?_⟩
              · rw [stWalkM_snoc, hlen3, stWalkM_snoc, ← HO.out, stWalkM_snoc]
                simp only [walkSM, walkM_eq, List.cons_append, List.append_assoc, List.nil_append]
              · have hown1 : ∀ z, z ≠ g → (Value.slice (some ⟨g, 0, none⟩) (st0.length + 1) cap).ownBlock ≠ some z := fun z hz e => hz (by simp only [Value.ownBlock, Option.some.injEq] at e; exact e.symm)
                have hk1 : ∀ z, z ≠ g → z < w1.heap.size → w'.heap[z]? = w1.heap[z]? ∧ g2 ≠ z := fun z hz hl => HA.out.kept z hl (hown1 z hz)
                have hs3 := hb3.size
                have hk : ∀ z, z ≠ g → z < W3.heap.size → w'.heap[z]? = W3.heap[z]? := fun z hz hl => (hk1 z hz (Nat.lt_of_lt_of_le hl hs3)).1.trans (hb3.block z hl)
                refine ⟨?_, HJ.out _ _ _ _ _ HM3.out.j ⟨hbw.mono (by omega), fun z hz hl => hk z (hz.elim (fun h => (HM3.out.bl z h).2.1) (fun h => absurd h (HM3.out.nz z))) hl⟩, fun e he => ?_, HM3.out.stays.trans ⟨hbw.size, fun z hz _ => hbw.block z (by have := HC.out z hz; omega)⟩, by have := hbw.size; have := HM3.out.size; omega, (hbw.block _ (by omega)).trans HM3.out.root, HM3.out.node, ?_, fun z hz => ?_, HM3.out.nz, HSUB.out⟩
                · rw [List.map_append, List.length_append, hlen3]
                  exact HA.out.own
                · rcases List.mem_append.1 he with he | he
                  · exact HM3.out.ts e he
                  · simp only [List.mem_singleton] at he
                    subst he
                    exact Or.inl (TM'.args HNX.out)
                · have := HM.out.cnt
                  rw [hlen] at this
                  simp only [List.length_append, List.length_cons, List.length_nil]
                  omega
                · obtain ⟨h1, h2, h3, h4⟩ := HM3.out.bl z hz
                  have hs4 := HA.out.size
                  exact ⟨by omega, fun e => (hk1 z h2 (by omega)).2 e.symm, h3, h4⟩
            case measure =>
              have h1 := HO.out
              simp only [stWalkM_snoc, walkSM, walkM_eq, List.length_append, List.length_cons, List.length_nil, Nat.zero_add]
              omega
        · gi_wp2_with fail
          refine bodyPost_ret (results_none rfl _ _ _) rfl ?_
          exact ⟨⟨_, rfl⟩, .inr ⟨pre ++ [(x, st0.length + 1)], B', N', HPRE.out, hJx3⟩⟩
theorem nodesD_seq {w wl : World} {C Ct : Nat → Prop} {t : Tm} {tp : Option Addr} {tc : Nat} {rp : Option Addr} {rc : Nat} {p : Option Addr} {c : Nat} {Bt Bp : Nat} (h : IterM w t tp tc rp rc p c Bt Bp) (hT : TM' w Ct t tp tc rp rc p c) (hn : t.nodes ≤ 2097153) (hb : Below w.heap.size w wl) (hC : ∀ b, C b → b < w.heap.size) (hp : C Bp) (hCt : ∀ z, Ct z → C z) :
    SeqD Fence.wide 1 Tryd.prog 97 #[.pointer (some ⟨Bt, 0, none⟩), .pointer (some ⟨Bp, 0, none⟩)] encNM keyNM (GoodND Ct) C (walkM t 1) wl := by
  intro l J Jx B0 W hbW hCB hB0 hJ _ hY h0
  have hbt := (Array.getElem?_eq_some_iff.1 h.bt).1
  have hbp := (Array.getElem?_eq_some_iff.1 h.bp).1
  have hbb : Below w.heap.size w W := hb.trans (hbW.mono hb.size)
  exact nodesD_it l Bt Bp t tp tc rp rc p c C Ct B0 W J Jx ((hbb.block _ hbt).trans h.bt) ((hbb.block _ hbp).trans h.bp) (hT.stays (.of_below hbb)) hn (fun b hc => Nat.lt_of_lt_of_le (hC b hc) hbb.size) hCB hB0 hp hCt hJ hY h0
theorem goodND_loop {C : Nat → Prop} {x : Tm × Value × Nat} {Y : Nat → Prop} {A A' : World} {l : Nat} (h : GoodND C x Y A) (hA : Holds (fun b => b = l) A A') (hC : ¬ C l) : GoodND C x Y A' :=
  ⟨nstaysM h.1 ⟨hA.1, fun b hb hlt => hA.2 b hlt (fun e => hC (e ▸ hb))⟩, h.2⟩
end Go.Proofs.YtingnigiijdllaaDoor
namespace Go.Proofs.YtingnigiijdllaaDoor
open Go Go.RowKit Go.Shelf
attribute [local go_sem] Oper.semAt_some

theorem YieldAt.any' {a b l : Nat} {P : Program} {args : Array Value} {W : World} {R : Ending → World → Prop} (h : YieldAt Fence.wide a P l args W R) (l' : Nat) : YieldAt (Fence.wide.inRound l') b P l args W R := by
  obtain ⟨fn, tmps, assign, body, h1, h2⟩ := h
  exact ⟨fn, tmps, assign, body, h1, h2.1, fun c cs _ => h2.2 c cs (room_wide _)⟩

set_option maxRecDepth 100000 in
set_option maxHeartbeats 1000000 in
theorem nextI_any (t : Tm) (tp : Option Addr) (tc : Nat) (rp : Option Addr) (rc : Nat) (p : Option Addr) (c : Nat) (n : Int) (w : World) :
    Calls Tryd.prog 59 #[tmV t tp tc rp rc p c, .int .i64 n] w fun e w' => e = .returned (.int .i64 (nextL t.kind n)) ∧ Below w.heap.size w w' := by
  have hn1 : t.kind = 10 → nextL t.kind n = wrap64 (n + 1) := fun h => by unfold nextL; rw [if_pos h]
  have hn2 : t.kind = 11 → nextL t.kind n = wrap64 (n - 1) := fun h => by unfold nextL; rw [if_neg (by omega), if_pos h]
  have hn3 : ¬ t.kind = 10 → ¬ t.kind = 11 → nextL t.kind n = n := fun h h2 => by unfold nextL; rw [if_neg h, if_neg h2]
  have HB0 := Lib.hid (al_below w (.cells (tmC t tp tc rp rc p c) 35))
  generalize nextL t.kind n = r at hn1 hn2 hn3 ⊢
  obtain ⟨g0, _, _, _, _, _, _, _, _⟩ := Bx9.new w t tp tc rp rc p c 35
  by_cases h1 : t.kind = 10
  · obtain rfl := hn1 h1
    have t1 : (t.kind == 10) = true := by simp [h1]
    clear hn1 hn2 hn3 h1
    go_enter Tryd.func59, Tryd.ntmps59
    go_wp2_with fail
    go_ret
    exact ⟨rfl, HB0.out⟩
  · by_cases h2 : t.kind = 11
    · obtain rfl := hn2 h2
      have t1 : (t.kind == 10) = false := by simp [h1]
      have t2 : (t.kind == 11) = true := by simp [h2]
      clear hn1 hn2 hn3 h1 h2
      go_enter Tryd.func59, Tryd.ntmps59
      go_wp2_with fail
      go_ret
      exact ⟨rfl, HB0.out⟩
    · obtain rfl := hn3 h1 h2
      have t1 : (t.kind == 10) = false := by simp [h1]
      have t2 : (t.kind == 11) = false := by simp [h2]
      clear hn1 hn2 hn3 h1 h2
      go_enter Tryd.func59, Tryd.ntmps59
      go_wp2_with fail
      go_ret
      exact ⟨rfl, HB0.out⟩

theorem infoI64 : (Tryd.prog.info? 3).map (fun i => (i.zero, i.size, i.bytes)) = some (some (.int .i64 0), 1, 8) := by kernel_rfl
abbrev lvV (st : List Int) : List Value := st.map fun z => .int .i64 z
abbrev encL (x : (Tm × Int) × Value) : Array Value := #[x.2, .int .i64 x.1.2]
abbrev keyL (x : (Tm × Int) × Value) : Tm × Int := x.1
def GoodL (C : Nat → Prop) (x : (Tm × Int) × Value) (Y : Nat → Prop) (W : World) : Prop := NM W C x.1.1 x.2 ∧ ∀ z, ¬ Y z
structure LvI (m : Nat) (Cx : Nat → Prop) (W : World) (l bc : Nat) (n : Int) (J : List (Tm × Int) → (Nat → Prop) → (Nat → Prop) → World → Prop) (pre : List (Tm × Nat)) (Bi Ni : Nat → Prop) (Wx : World) (Bo No : Nat → Prop) (g cap : Nat) : Prop where
  split : ∀ z, Bi z ↔ (z = bc ∨ z = g) ∨ Bo z
  apart : ¬ Bo bc ∧ ¬ Bo g ∧ g ≠ bc ∧ W.heap.size < bc ∧ W.heap.size < g
  lt : ∀ z, Bi z → z < Wx.heap.size ∧ z ≠ W.heap.size
  ni : ∀ z, ¬ Ni z
  no : ∀ z, ¬ No z
  cell : Wx.heap[bc]? = some (.cells #[.slice (some ⟨g, 0, none⟩) (stkL [n] pre).length cap] 88 (0, 0))
  own : Wx.ownsRow (W.heap.size + 1) 3 1 (.slice (some ⟨g, 0, none⟩) (stkL [n] pre).length cap) (stkL [n] pre).length (lvV (stkL [n] pre))
  j : J (lvs pre [n]) Bo No Wx
  yb : Wx.heap[W.heap.size]? = some (.cells #[.func (.yield l) #[] #[]] 48 (0, 0))
  size : m ≤ Wx.heap.size
  cb : ¬ Cx bc ∧ ¬ Cx g
theorem LvI.keep {m : Nat} {Cx : Nat → Prop} {W A A' : World} {l bc : Nat} {n : Int} {J : List (Tm × Int) → (Nat → Prop) → (Nat → Prop) → World → Prop} {pre : List (Tm × Nat)} {Bi Ni Bo No : Nat → Prop} {g cap : Nat} (h : LvI m Cx W l bc n J pre Bi Ni A Bo No g cap) (hm : W.heap.size < m)
    (hJ : ∀ pre B N A A', J pre B N A → Keep W.heap.size (fun z => B z ∨ N z) A A' → J pre B N A') (hk : Keep m (fun z => Bi z ∨ Ni z) A A') : LvI m Cx W l bc n J pre Bi Ni A' Bo No g cap := by
  have hs := hk.1.size
  have hbc : Bi bc := (h.split bc).2 (Or.inl (Or.inl rfl))
  have hg : Bi g := (h.split g).2 (Or.inl (Or.inr rfl))
  refine ⟨h.split, h.apart, fun z hz => ⟨Nat.lt_of_lt_of_le (h.lt z hz).1 hs, (h.lt z hz).2⟩, h.ni, h.no, (hk.2 bc (Or.inl hbc) (h.lt bc hbc).1).trans h.cell, row_of_block h.own (hk.2 g (Or.inl hg) (h.lt g hg).1), hJ _ _ _ _ _ h.j (hk.mono (Nat.le_of_lt hm) (fun b hb => hb.elim (fun h2 => Or.inl ((h.split b).2 (Or.inr h2))) (fun h2 => absurd h2 (h.no b)))), (hk.1.block _ hm).trans h.yb, Nat.le_trans h.size hs, h.cb⟩
theorem LvI.stop {m : Nat} {Cx : Nat → Prop} {W Wx W3 : World} {l bc : Nat} {n : Int} {J Jx : List (Tm × Int) → (Nat → Prop) → (Nat → Prop) → World → Prop} {pre : List (Tm × Nat)} {B N Y Bo No Bo' No' : Nat → Prop} {g cap : Nat} {all q : List (Tm × Int)} (h : LvI m Cx W l bc n J pre B N Wx Bo No g cap)
    (hgr : Grew Bo Bo' Wx.heap.size W3.heap.size) (hh : Holds Bo Wx W3) (hno : ∀ z, No' z → No z ∨ False) (hq : q <+: all) (hj : Jx q Bo' No' W3) :
    ∃ B' N' : Nat → Prop, Grew B B' Wx.heap.size W3.heap.size ∧ (∀ z, N' z → N z ∨ Y z) ∧ Holds B Wx W3 ∧ (Code.ret = Code.ret ∧ ∃ (Bo No : Nat → Prop) (q : List (Tm × Int)), q <+: all ∧ (∀ z, Bo z → B' z) ∧ (∀ z, ¬ No z) ∧ Jx q Bo No W3) := by
  have hbc := h.lt bc ((h.split bc).2 (Or.inl (Or.inl rfl)))
  have hg := h.lt g ((h.split g).2 (Or.inl (Or.inr rfl)))
  have hs := hh.1
  refine ⟨fun z => (z = bc ∨ z = g) ∨ Bo' z, fun _ => False, fun z hz => ?_, fun z hz => hz.elim, ⟨hs, fun z hl hb => hh.2 z hl (fun e => hb ((h.split z).2 (Or.inr e)))⟩, rfl, Bo', No', q, hq, fun z hz => Or.inr hz, fun z hz => (hno z hz).elim (h.no z) id, hj⟩
  rcases hz with hz | hz
  · exact ⟨Or.inl ((h.split z).2 (Or.inl hz)), by rcases hz with rfl | rfl <;> omega⟩
  · obtain ⟨h1, h2⟩ := hgr z hz
    exact ⟨h1.imp (fun e => (h.split z).2 (Or.inr e)) id, h2⟩
theorem LvI.step {m : Nat} {Cx : Nat → Prop} {W Wx W3 w1 w' : World} {l bc : Nat} {n : Int} {J : List (Tm × Int) → (Nat → Prop) → (Nat → Prop) → World → Prop} {pre : List (Tm × Nat)} {B N Y Bo No Bo' No' : Nat → Prop} {g cap g2 cap2 : Nat} {x : Tm} {d0 : Nat} {st : List Int} {lv : Int} (h : LvI m Cx W l bc n J pre B N Wx Bo No g cap)
    (hm : W.heap.size < m) (hCx : ∀ z, Cx z → z < m) (hst : st = stkL [n] pre) (hd : d0 + 1 ≤ st.length) (hlv : lv = st.getD d0 0)
    (hJ : ∀ pre B N A A', J pre B N A → Keep W.heap.size (fun z => B z ∨ N z) A A' → J pre B N A')
    (hgr : Grew Bo Bo' Wx.heap.size W3.heap.size) (hh : Holds Bo Wx W3) (hno : ∀ z, No' z → No z ∨ False) (hj : J (lvs pre [n] ++ [(x, lv)]) Bo' No' W3) (hb1 : Below W3.heap.size W3 w1)
    (hA : Appd w1 w' (W.heap.size + 1) 3 1 (.slice (some ⟨g, 0, none⟩) (d0 + 1) cap) (d0 + 1) ((lvV st).take ((d0 + 1) * 1)) [.int .i64 (nextL x.kind lv)] g2 cap2) :
    ∃ B' N' : Nat → Prop, Grew B B' Wx.heap.size (w'.setCell ⟨bc, 0, none⟩ (.slice (some ⟨g2, 0, none⟩) (d0 + 2) cap2)).heap.size ∧ (∀ z, N' z → N z ∨ Y z) ∧ Holds B Wx (w'.setCell ⟨bc, 0, none⟩ (.slice (some ⟨g2, 0, none⟩) (d0 + 2) cap2)) ∧
      ∃ (Bo No : Nat → Prop) (g cap : Nat), LvI m Cx W l bc n J (pre ++ [(x, d0 + 1)]) B' N' (w'.setCell ⟨bc, 0, none⟩ (.slice (some ⟨g2, 0, none⟩) (d0 + 2) cap2)) Bo No g cap := by
  have hbc := h.lt bc ((h.split bc).2 (Or.inl (Or.inl rfl)))
  have hg := h.lt g ((h.split g).2 (Or.inl (Or.inr rfl)))
  obtain ⟨ap1, ap2, ap3, ap4, ap5⟩ := h.apart
  have s1 := hh.1
  have s2 := hb1.size
  have s3 := hA.size
  have s0 := h.size
  have hcap := row_cap hA.own
  have e4 : (w'.setCell ⟨bc, 0, none⟩ (.slice (some ⟨g2, 0, none⟩) (d0 + 2) cap2)).heap.size = w'.heap.size := by simp [World.setCell]
  have hov : ∀ z, z ≠ g → (Value.slice (some ⟨g, 0, none⟩) (d0 + 1) cap).ownBlock ≠ some z := fun z hz e => hz (by simp only [Value.ownBlock, Option.some.injEq] at e; exact e.symm)
  have hk1 : ∀ z, z ≠ g → z < w1.heap.size → w'.heap[z]? = w1.heap[z]? ∧ g2 ≠ z := fun z hz hl => hA.kept z hl (hov z hz)
  have hg2 : g2 = g ∨ w1.heap.size ≤ g2 := by
    rcases Nat.lt_or_ge g2 w1.heap.size with hl | hl
    · by_cases e : g2 = g
      · exact Or.inl e
      · exact absurd rfl (hk1 g2 e hl).2
    · exact Or.inr hl
  have ho : ∀ z, z ≠ bc → (w'.setCell ⟨bc, 0, none⟩ (.slice (some ⟨g2, 0, none⟩) (d0 + 2) cap2)).heap[z]? = w'.heap[z]? := fun z hz => Below.heap_setCell _ _ _ _ hz
  have h3 : ∀ z, z ≠ g → z ≠ bc → z < W3.heap.size → (w'.setCell ⟨bc, 0, none⟩ (.slice (some ⟨g2, 0, none⟩) (d0 + 2) cap2)).heap[z]? = W3.heap[z]? := fun z h1 h2 hl => (ho z h2).trans ((hk1 z h1 (by omega)).1.trans (hb1.block z hl))
  have hold : Holds B Wx (w'.setCell ⟨bc, 0, none⟩ (.slice (some ⟨g2, 0, none⟩) (d0 + 2) cap2)) := ⟨by omega, fun z hl hb => (h3 z (fun e => hb ((h.split z).2 (Or.inl (Or.inr e)))) (fun e => hb ((h.split z).2 (Or.inl (Or.inl e)))) (by omega)).trans (hh.2 z hl (fun e => hb ((h.split z).2 (Or.inr e))))⟩
  have hbo : ∀ z, Bo' z → z ≠ bc ∧ z ≠ g ∧ z ≠ g2 := fun z hz => by
    obtain ⟨h1, h2⟩ := hgr z hz
    have e1 : z ≠ bc := by rintro rfl; exact h1.elim ap1 (fun h => by omega)
    have e2 : z ≠ g := by rintro rfl; exact h1.elim ap2 (fun h => by omega)
    refine ⟨e1, e2, ?_⟩
    rintro rfl
    exact hg2.elim e2 (fun h => by omega)
  have hg2bc : g2 ≠ bc := (hk1 bc (fun e => ap3 e.symm) (by omega)).2
  have hgrew : Grew B (fun z => (z = bc ∨ z = g2) ∨ Bo' z) Wx.heap.size (w'.setCell ⟨bc, 0, none⟩ (.slice (some ⟨g2, 0, none⟩) (d0 + 2) cap2)).heap.size := by
    rintro z ((rfl | rfl) | hz)
    · exact ⟨Or.inl ((h.split _).2 (Or.inl (Or.inl rfl))), by omega⟩
    · refine ⟨?_, by omega⟩
      rcases hg2 with e | e
      · exact Or.inl ((h.split _).2 (Or.inl (Or.inr e)))
      · exact Or.inr (by omega)
    · obtain ⟨h1, h2⟩ := hgr z hz
      exact ⟨h1.imp (fun e => (h.split z).2 (Or.inr e)) id, by omega⟩
  have hlen : (stkL [n] (pre ++ [(x, d0 + 1)])).length = d0 + 2 := by
    rw [stkL_snoc, ← hst, pushL_len hd]
  have hpush : lvV (stkL [n] (pre ++ [(x, d0 + 1)])) = (lvV st).take ((d0 + 1) * 1) ++ [.int .i64 (nextL x.kind lv)] := by
    rw [stkL_snoc, ← hst, hlv]
    simp [pushL, lvV]
  refine ⟨_, fun _ => False, hgrew, fun z hz => hz.elim, hold, Bo', No', g2, cap2, fun _ => Iff.rfl, ⟨fun e => (hbo _ e).1 rfl, fun e => (hbo _ e).2.2 rfl, hg2bc, ap4, by omega⟩, fun z hz => ⟨(hgrew z hz).2, ?_⟩, fun z hz => hz, fun z hz => (hno z hz).elim (h.no z) id, ?_, ?_, ?_, ?_, by omega, h.cb.1, fun e => ?_⟩
  · rintro rfl
    rcases hz with (e | e) | e
    · omega
    · omega
    · rcases (hgr _ e).1 with h1 | h1
      · exact (h.lt _ ((h.split _).2 (Or.inr h1))).2 rfl
      · omega
  · rw [hlen, Go.Joins.block_setCell ((hk1 bc (fun e => ap3 e.symm) (by omega)).1.trans ((hb1.block _ (by omega)).trans ((hh.2 bc hbc.1 ap1).trans h.cell))) _]
    rfl
  · rw [hlen, hpush]
    exact row_of_block hA.own (ho g2 hg2bc)
  · rw [lvs_snoc, Nat.add_sub_cancel, ← hst, ← hlv]
    refine hJ _ _ _ _ _ hj ⟨((hb1.mono (by omega)).trans (hA.below.mono (by omega))).setCell (p := ⟨bc, 0, none⟩) (Nat.le_of_lt ap4) _, fun z hz hl => ?_⟩
    rcases hz with hz | hz
    · exact h3 z (hbo z hz).2.1 (hbo z hz).1 hl
    · exact absurd hz (fun e => (hno z e).elim (h.no z) id)
  · exact (hold.2 W.heap.size (by omega) (fun e => (h.lt _ e).2 rfl)).trans h.yb
  · rcases hg2 with e2 | e2
    · rw [e2] at e; exact h.cb.2 e
    · have := hCx _ e; omega
end Go.Proofs.YtingnigiijdllaaDoor
namespace Go.Proofs.YtingnigiijdllaaDoor
open Go Go.RowKit
def noDefer (ops : Array Oper) : Bool := ops.all fun o => match o.op with | .defer _ => false | _ => true
theorem noDefer_at {ops : Array Oper} (h : noDefer ops = true) {i : Nat} {o : Oper} (ho : ops[i]? = some o) : ∀ c, o.op ≠ .defer c := by
  intro c hc
  obtain ⟨hi, rfl⟩ := Array.getElem?_eq_some_iff.1 ho
  unfold noDefer at h
  have := Array.all_eq_true.1 h i hi
  rw [hc] at this
  cases this
theorem RoundIn.any {a b l l' : Nat} {P : Program} {f : FuncId} {tmps : Array Value} {assign body : Code} {w : World} {R : Ending → World → Prop} (h : RoundIn Fence.wide a P l f tmps assign body w R) : RoundIn (Fence.wide.inRound l') b P l f tmps assign body w R :=
  ⟨h.1, fun c cs _ => h.2 c cs (room_wide _)⟩
theorem wpOpIn_round {l n : Nat} {P : Program} {ops : Array Oper} {Q : Exit → Act → World → Prop} (hnd : noDefer ops = true) {i : Nat} {K : Act → World → Prop} {a : Act} {w : World} (h : wpOpIn Fence.wide n P ops Q i K a w) : wpOpIn (Fence.wide.inRound l) n P ops Q i K a w := by
  unfold wpOpIn at *
  cases ho : ops[i]? with
  | none => simpa [ho] using h
  | some o =>
    simp only [ho] at h ⊢
    have hd := noDefer_at hnd ho
    by_cases hw : Region.wanted o (yielded ops a.tmps) = true
    · rw [if_pos hw] at h ⊢
      unfold Oper.wpIn at *
      refine ⟨fun _ _ => trivial, ?_⟩
      have h2 := h.2
      rw [Oper.semAt_eq _ _ _ hd] at h2 ⊢
      generalize (execOp a.eval o).run P w = r at *
      cases r with
      | ok x w' =>
        cases x <;> simp only [Oper.uponIn] at h2 ⊢
        case value => exact h2
        case skip => exact h2
        case defer => exact h2
        case enter => exact ⟨fun h => by simp [Fence.wide] at h, CallsIn.inRound l h2.2⟩
        case row => exact ⟨fun h => by simp [Fence.wide] at h, h2.2⟩
        case round => exact ⟨fun h => by simp [Fence.wide] at h, RoundIn.any h2.2⟩
      | halt x w' => cases x <;> exact h2
    · rw [if_neg hw] at h ⊢
      exact ⟨fun _ _ => trivial, h.2⟩
theorem wpAnyIn_round {l n : Nat} {P : Program} {md : Region.Mode} {ops : Array Oper} {Q : Exit → Act → World → Prop} (hnd : noDefer ops = true) : ∀ (fuel : Nat) (listed : Array Bool) (a : Act) (w : World), wpAnyIn Fence.wide n P md ops Q fuel listed a w → wpAnyIn (Fence.wide.inRound l) n P md ops Q fuel listed a w
  | 0, _, _, _, h => h
  | fuel + 1, _, _, _, h => ⟨h.1, fun i hi => wpOpIn_mono (fun a w h => wpAnyIn_round hnd fuel _ a w h) (wpOpIn_round hnd (h.2 i hi))⟩
theorem wpIn_region_round {l n id : Nat} {P : Program} {ops : Array Oper} {Q : Exit → Act → World → Prop} {a : Act} {w : World} (hm : P.follows .mixedOrders = true) (hnd : noDefer ops = true)
    (h : wpAnyIn Fence.wide n P .any ops Q ops.size (Array.replicate ops.size false) a w.drew) : (Code.region id ops true).wpIn (Fence.wide.inRound l) n P Q a w :=
  wpIn_region_any hm (wpAnyIn_round hnd _ _ _ _ h)

section
variable {P : Program} {w0 : World} {base : Nat} {t e : TypeId} {i : TypeInfo} {z : Value} {size bytes : Nat} {v : Value} {n : Nat} {xs cs : List Value}
theorem stepIn_app1 {F : Fence} {m : Nat} {ops : Array Oper} {o : Oper} {a : Act} {K : Act → World → Prop} {Q : Exit → Act → World → Prop} {E : Prop} (hgd : o.guard = none) (s x : Operand)
    (ho : o.op = .call { callee := .builtin .append, args := #[s, x], argTypes := #[t, t] }) (ht : P.underlying t = some (.slice e)) (hi : P.info? e = some i) (hz : i.zero = some z) (hsize : i.size = size) (hby : i.bytes = bytes) (hzs : z.cells.size = size) (hsz : 0 < size)
    (hs : a.eval s = v) (hown : w0.ownsRow base e size v n xs) (bk : Nat) (hx : a.eval x = .slice (some ⟨bk, 0, none⟩) 1 1) (hbk : bk = w0.heap.size) (hl : cs.length = size) (h1 : ∀ u ∈ cs, u.oneCell' = true) (h63 : n + 1 ≤ maxLen) (hbytes : (n + 1) * bytes ≤ 140737488355328) (hbase : base ≤ w0.heap.size)
    (h : ∀ w' g cap, Appd w0 w' base e size v n xs cs g cap → K (a.put o.dst (.slice (some ⟨g, 0, none⟩) (n + 1) cap)) w') :
    if Region.wanted o (yielded ops a.tmps) = true then Oper.wpIn F m P o a (w0.alloc (.cells cs.toArray e)) K Q else E := by
  subst hbk
  have hw : Region.wanted o (yielded ops a.tmps) = true := by simp [Region.wanted, hgd]
  rw [if_pos hw]
  obtain ⟨w', g, cap, hrun, hA⟩ := run_app1 (P := P) o.type ht hi hz hsize hby hzs hsz hown hl h1 h63 hbytes hbase
  unfold Oper.wpIn
  refine ⟨by simp [Oper.about, ho, resolve, Target.leads, Sem.run_pure], ?_⟩
  rw [Oper.semAt_plain F _ _ (by rw [ho]; intro c hc'; cases hc')]
  simp [execOp, ho, resolve, invoke, builtin, hs, hx, hrun, Result.andThen, Oper.uponIn]
  exact h w' g cap hA
end
end Go.Proofs.YtingnigiijdllaaDoor
