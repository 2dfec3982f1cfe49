/-
  Several texts of the proof in one (each says below what it holds): FormI PlainT LvPl LvPlI IsPlainLaw Frame FrameV RangeD.
-/
import Derived.Test.YtdfnjfelmfccjaaDoorLvg5
import Derived.Test.YtdfnjfelmfccjaaDoorLvg3
import Derived.Test.YtdfnjfelmfccjaaDoorLvg4
import Derived.Test.YtdfnjfelmfccjaaDoorLvg2
import Derived.Deep.CutRange
import Derived.Deep.CutBlock
import Derived.Deep.RegionHeld3
import Derived.ProofKit
import Derived.OpenShut
import Derived.Carry
import Derived.Below
import Derived.OpenVars
import Derived.ChangeVars
/- FormI: The contract of the program's isForm: the node has one of the forms (genformi.py writes this text). -/
namespace Go.Proofs.YtdfnjfelmfccjaaDoor
open Go Go.RowKit

theorem Tm.NodeOk.ar {t : Tm} (h : t.NodeOk) : t.arOk := ⟨h.2, fun k => by
  have h1 := h.2
  have h2 := (names_4 k).1 h.1.names
  rw [Tm.arity, k] at h1
  simp only [arK] at h1
  have h3 : (arK 4 (opAr t.name.toList)) = opAr t.name.toList := by simp [arK]
  omega⟩
theorem node_fields {t : Tm} (ha : t.arOk) : t.NodeOk ↔ t.FieldsOk := ⟨fun h => h.1, fun h => ⟨h, ha.1⟩⟩
theorem zero_valid {t : Ty} (h : zeroT t) : ¬ t.valid = true := fun e => by
  have h1 := ((valid_walk t).1 e).1 (t, 1) (by rw [walkT_eq]; simp)
  have h2 := (okK_kind t).1 h1.1
  have h3 := h.1
  omega
theorem fo_plain {t : Tm} (h6 : ¬ t.kind = 6) (h9 : ¬ t.kind = 9) : t.FieldsOk ↔ zeroT t.ty ∧ zeroT t.res ∧ (0 ≤ t.n ∧ t.n ≤ t.most) ∧ t.namesOk :=
  ⟨fun h => ⟨h.ty2.elim (fun e => (e.elim h6 h9).elim) id, h.res2.elim (fun e => (h9 e).elim) id, h.n, h.names⟩,
   fun h => ⟨⟨fun e => (e.elim h6 h9).elim, fun e => (zero_valid h.1 e).elim⟩, Or.inr h.1, ⟨fun e => (h9 e).elim, fun e => (zero_valid h.2.1 e).elim⟩, Or.inr h.2.1, h.2.2.1, h.2.2.2⟩⟩
theorem fo_six {t : Tm} (k : t.kind = 6) : t.FieldsOk ↔ t.ty.valid = true ∧ zeroT t.res ∧ (0 ≤ t.n ∧ t.n ≤ t.most) ∧ t.namesOk :=
  have h9 : ¬ t.kind = 9 := by omega
  ⟨fun h => ⟨h.ty1.1 (Or.inl k), h.res2.elim (fun e => (h9 e).elim) id, h.n, h.names⟩,
   fun h => ⟨⟨fun _ => h.1, fun _ => Or.inl k⟩, Or.inl (Or.inl k), ⟨fun e => (h9 e).elim, fun e => (zero_valid h.2.1 e).elim⟩, Or.inr h.2.1, h.2.2.1, h.2.2.2⟩⟩
theorem fo_nine {t : Tm} (k : t.kind = 9) : t.FieldsOk ↔ t.ty.valid = true ∧ t.res.valid = true ∧ (0 ≤ t.n ∧ t.n ≤ t.most) ∧ t.namesOk :=
  ⟨fun h => ⟨h.ty1.1 (Or.inr k), h.res1.1 k, h.n, h.names⟩,
   fun h => ⟨⟨fun _ => h.1, fun _ => Or.inr k⟩, Or.inl (Or.inr k), ⟨fun _ => h.2.1, fun _ => k⟩, Or.inl k, h.2.2.1, h.2.2.2⟩⟩
theorem emp_list : (⟨#[]⟩ : ByteArray).toList = [] := nil_size rfl
/-- What is left of a node whose own fields are cleared: nothing. -/
def Tm.Clear (u : Tm) : Prop := u.name.toList = [] ∧ u.other.toList = [] ∧ u.n = 0 ∧ zeroT u.ty ∧ zeroT u.res

theorem clear_name {t : Tm} (h6 : ¬ t.kind = 6) (h9 : ¬ t.kind = 9) (h4 : ¬ t.kind = 4) (ha : t.arOk) (h2 : t.kind = 1 ∨ t.kind = 8) {r : Bool} (hr : r = true ↔ Nm t.name) :
    (r = true ∧ (Tm.mk t.kind ⟨#[]⟩ t.other t.n t.ty t.res t.args).Clear) ↔ t.NodeOk := by
  rw [node_fields ha, fo_plain h6 h9, names_1 h4 (by omega), hr, show t.most = 0 from by unfold Tm.most; rw [if_neg (by omega), if_neg (by omega)]]
  constructor
  · rintro ⟨a, b, c, d, e, f⟩
    exact ⟨e, f, ⟨by show 0 ≤ t.n; have : t.n = 0 := d; omega, by have : t.n = 0 := d; omega⟩, a, c⟩
  · rintro ⟨a, b, c, d, e⟩
    exact ⟨d, emp_list, e, by show t.n = 0; omega, a, b⟩
theorem clear_num {t : Tm} (h4 : ¬ t.kind = 4) (h1 : ¬ (t.kind = 1 ∨ t.kind = 6 ∨ t.kind = 8)) (h9 : ¬ t.kind = 9) (ha : t.arOk) {r : Bool} (hr : r = true ↔ 0 ≤ t.n ∧ t.n ≤ t.most) :
    (r = true ∧ (Tm.mk t.kind t.name t.other 0 t.ty t.res t.args).Clear) ↔ t.NodeOk := by
  rw [node_fields ha, fo_plain (fun e => h1 (Or.inr (Or.inl e))) h9, names_0 h4 h1 h9, hr]
  constructor
  · rintro ⟨a, b, c, d, e, f⟩
    exact ⟨e, f, a, b, c⟩
  · rintro ⟨a, b, c, d, e⟩
    exact ⟨c, d, e, rfl, a, b⟩
theorem clear_op {t : Tm} (h4 : t.kind = 4) (ha : t.arOk) :
    (true = true ∧ (Tm.mk t.kind ⟨#[]⟩ t.other t.n t.ty t.res t.args).Clear) ↔ t.NodeOk := by
  have hp : 0 < opAr t.name.toList := by
    have h1 := ha.1
    have h2 := ha.2 h4
    rw [Tm.arity, h4] at h1
    have h3 : (arK 4 (opAr t.name.toList)) = opAr t.name.toList := by simp [arK]
    omega
  rw [node_fields ha, fo_plain (by omega) (by omega), names_4 h4, show t.most = 0 from by unfold Tm.most; rw [if_neg (by omega), if_neg (by omega)]]
  constructor
  · rintro ⟨-, b, c, d, e, f⟩
    exact ⟨e, f, ⟨by show 0 ≤ t.n; have : t.n = 0 := d; omega, by have : t.n = 0 := d; omega⟩, hp, c⟩
  · rintro ⟨a, b, c, d, e⟩
    exact ⟨rfl, emp_list, e, by show t.n = 0; omega, a, b⟩
theorem clear_six {t : Tm} (k : t.kind = 6) (ha : t.arOk) {r : Bool} (hr : r = true ↔ Nm t.name ∧ t.ty.valid = true) :
    (r = true ∧ (Tm.mk t.kind ⟨#[]⟩ t.other t.n (.mk 0 []) t.res t.args).Clear) ↔ t.NodeOk := by
  rw [node_fields ha, fo_six k, names_1 (by omega) (by omega), hr, show t.most = 0 from by unfold Tm.most; rw [if_neg (by omega), if_neg (by omega)]]
  constructor
  · rintro ⟨⟨a, a2⟩, b, c, d, e, f⟩
    exact ⟨a2, f, ⟨by show 0 ≤ t.n; have : t.n = 0 := d; omega, by have : t.n = 0 := d; omega⟩, a, c⟩
  · rintro ⟨a, b, c, d, e⟩
    exact ⟨⟨d, a⟩, emp_list, e, by show t.n = 0; omega, ⟨rfl, rfl⟩, b⟩
theorem clear_nine {t : Tm} (k : t.kind = 9) (ha : t.arOk) {r : Bool} (hr : r = true ↔ Nm t.name ∧ Nm t.other ∧ t.name ≠ t.other ∧ t.ty.valid = true ∧ t.res.valid = true) :
    (r = true ∧ (Tm.mk t.kind ⟨#[]⟩ ⟨#[]⟩ t.n (.mk 0 []) (.mk 0 []) t.args).Clear) ↔ t.NodeOk := by
  rw [node_fields ha, fo_nine k, names_9 (by omega) (by omega) k, hr, show t.most = 0 from by unfold Tm.most; rw [if_neg (by omega), if_neg (by omega)]]
  constructor
  · rintro ⟨⟨a1, a2, a3, a4, a5⟩, b, c, d, e, f⟩
    exact ⟨a4, a5, ⟨by show 0 ≤ t.n; have : t.n = 0 := d; omega, by have : t.n = 0 := d; omega⟩, a1, a2, a3⟩
  · rintro ⟨a, b, c, d1, d2, d3⟩
    exact ⟨⟨d1, d2, d3, a, b⟩, emp_list, emp_list, by show t.n = 0; omega, ⟨rfl, rfl⟩, ⟨rfl, rfl⟩⟩
theorem clear_oth {t : Tm} (h4 : ¬ t.kind = 4) (h1 : ¬ (t.kind = 1 ∨ t.kind = 6 ∨ t.kind = 8)) (h9 : ¬ t.kind = 9) (h2 : ¬ t.kind = 2) (h3 : ¬ t.kind = 3) (ha : t.arOk) :
    (true = true ∧ (Tm.mk t.kind t.name t.other t.n t.ty t.res t.args).Clear) ↔ t.NodeOk := by
  rw [node_fields ha, fo_plain (fun e => h1 (Or.inr (Or.inl e))) h9, names_0 h4 h1 h9, show t.most = 0 from by unfold Tm.most; rw [if_neg h2, if_neg h3]]
  constructor
  · rintro ⟨-, b, c, d, e, f⟩
    exact ⟨e, f, ⟨by show 0 ≤ t.n; have : t.n = 0 := d; omega, by have : t.n = 0 := d; omega⟩, b, c⟩
  · rintro ⟨a, b, c, d, e⟩
    exact ⟨rfl, d, e, by show t.n = 0; omega, a, b⟩

set_option maxRecDepth 100000 in
set_option maxHeartbeats 8000000 in
theorem formI_any {C : Nat → Prop} {t : Tm} {tp : Option Addr} {tc : Nat} {rp : Option Addr} {rc : Nat} {p : Option Addr} {c : Nat} (w : World) (hka : KA w) (hT : TM' w C t tp tc rp rc p c) (hn : t.wt ≤ 2097152) :
    Calls Tryd.prog 46 #[tmV t tp tc rp rc p c] w (Tells t.NodeOk w) := by
  have hb0 := al_below w (.cells (tmC t tp tc rp rc p c) 36)
  have HA := Lib.hid (hasAr_any t tp tc rp rc p c _ (hka.below hb0) hn)
  have HB := Lib.hid hb0
  have hwt := t.wt_eq
  have HNM := Lib.hid (fun W => nmI_any t.name W (by omega))
  have HNO := Lib.hid (fun W => nmI_any t.other W (by omega))
  have n1 : nodesS t.ty.args ≤ 2097152 := by omega
  have n2 : nodesS t.res.args ≤ 2097152 := by omega
  have HVT := Lib.hid (fun (W : World) (hW : Below w.heap.size w W) => validI_any (⟨_, rfl, hT.ty.keep hW⟩ : TT W C t.ty (.agg #[.int .i64 t.ty.kind, .slice tp t.ty.args.length tc])) n1)
  have HVR := Lib.hid (fun (W : World) (hW : Below w.heap.size w W) => validI_any (⟨_, rfl, hT.res.keep hW⟩ : TT W C t.res (.agg #[.int .i64 t.res.kind, .slice rp t.res.args.length rc])) n2)
  clear hka hb0 hwt n1 n2 hT hn
  have HX := Lib.hid (Bx9.new w t tp tc rp rc p c 36)
  go_enter Tryd.func46, Tryd.ntmps46
  go_wp2_with fail
  refine HA.out.mono ?_
  rintro e w1 ⟨r, hr, rfl, hb1⟩
  have HR := Lib.hid hr
  have HB1 := Lib.hid (HB.out.trans (hb1.mono HB.out.size))
  have HX1 := Lib.hid (HX.out.keep hb1)
  obtain ⟨g0, g1, g2, g3, g4, g5, g6, g7, g8⟩ := HX.out.keep hb1
  clear hr hb1 HA
  cases r with
  | false =>
    go_wp2_with fail
    go_ret
    exact ⟨_, lit_f (fun h => by have := HR.out.2 h.ar; cases this), rfl, HB1.out⟩
  | true =>
    have HAR := Lib.hid (HR.out.1 rfl)
    have hbn := al_below w1 (.cells (tmC t tp tc rp rc p c) 36)
    have HBN := Lib.hid (HB1.out.trans (hbn.mono HB1.out.size))
    have HXN := Lib.hid (HX1.out.keep hbn)
    have HNB := Lib.hid (blk_new w1 (.cells (tmC t tp tc rp rc p c) 36))
    have n0 : (w1.alloc (.cells #[.int .i64 t.kind, .string t.name, .string t.other, .int .i64 t.n, .int .i64 t.ty.kind, .slice tp t.ty.args.length tc, .int .i64 t.res.kind, .slice rp t.res.args.length rc, .slice p t.args.length c] 36)).cell? ⟨w.heap.size, 0, none⟩ = some (.int .i64 t.kind) := HXN.out.kind
    clear hbn
    go_upto_block 0 with fail
    go_cut [3] from 5 to 112 (fun s3 wx => ∃ (pr : Bool) (u : Tm) (tp' : Option Addr) (tc' : Nat) (rp' : Option Addr) (rc' : Nat), s3 = .bool pr ∧ Bx9 wx w1.heap.size u tp' tc' rp' rc' p c ∧ ((pr = true ∧ u.Clear) ↔ t.NodeOk) ∧ Below w.heap.size w wx)
    case first =>
      clear n0 g0 g1 g2 g3 g4 g5 g6 g7 g8
      obtain ⟨g0, g1, g2, g3, g4, g5, g6, g7, g8⟩ := HXN.out
      have HKN := Lib.hid HNB.out
      by_cases k1 : t.kind = 1
      · have HKD := Lib.hid k1
        have e1 : (t.kind == 1) = true := by simp [k1]
        clear k1
        go_wp2_with fail
        refine (HNM.out _).mono ?_
        rintro e w2 ⟨r2, hr2, rfl, hb2⟩
        have HR2 := Lib.hid hr2
        clear hr2
        have HB2 := Lib.hid (HBN.out.trans (hb2.mono HBN.out.size))
        have HX2 := Lib.hid (HXN.out.keep hb2)
        have HK2 := Lib.hid ((hb2.block _ (Array.getElem?_eq_some_iff.1 HKN.out).1).trans HKN.out)
        clear hb2 g0 g1 g2 g3 g4 g5 g6 g7 g8
        obtain ⟨g0, g1, g2, g3, g4, g5, g6, g7, g8⟩ := HX2.out
        have c1 := cell_of_blk HK2.out 1
        have cz := unfrozen_of_blk HK2.out
        go_wp2_with fail
        go_meet
        exact ⟨_, (.mk t.kind ⟨#[]⟩ t.other t.n t.ty t.res t.args), tp, tc, rp, rc, rfl, Bx9.of (by rw [Go.Joins.block_setCell HK2.out _]; rfl), clear_name (by have := HKD.out; omega) (by have := HKD.out; omega) (by have := HKD.out; omega) HAR.out (Or.inl HKD.out) HR2.out, (HB2.out.setCell (p := ⟨w1.heap.size, 1, none⟩) (by show w.heap.size ≤ w1.heap.size; exact HB1.out.size) _)⟩
      by_cases k8 : t.kind = 8
      · have HKD := Lib.hid k8
        have e1 : (t.kind == 1) = false := by simp [k8]
        have e8 : (t.kind == 8) = true := by simp [k8]
        clear k1
        clear k8
        go_wp2_with fail
        refine (HNM.out _).mono ?_
        rintro e w2 ⟨r2, hr2, rfl, hb2⟩
        have HR2 := Lib.hid hr2
        clear hr2
        have HB2 := Lib.hid (HBN.out.trans (hb2.mono HBN.out.size))
        have HX2 := Lib.hid (HXN.out.keep hb2)
        have HK2 := Lib.hid ((hb2.block _ (Array.getElem?_eq_some_iff.1 HKN.out).1).trans HKN.out)
        clear hb2 g0 g1 g2 g3 g4 g5 g6 g7 g8
        obtain ⟨g0, g1, g2, g3, g4, g5, g6, g7, g8⟩ := HX2.out
        have c1 := cell_of_blk HK2.out 1
        have cz := unfrozen_of_blk HK2.out
        go_wp2_with fail
        go_meet
        exact ⟨_, (.mk t.kind ⟨#[]⟩ t.other t.n t.ty t.res t.args), tp, tc, rp, rc, rfl, Bx9.of (by rw [Go.Joins.block_setCell HK2.out _]; rfl), clear_name (by have := HKD.out; omega) (by have := HKD.out; omega) (by have := HKD.out; omega) HAR.out (Or.inr HKD.out) HR2.out, (HB2.out.setCell (p := ⟨w1.heap.size, 1, none⟩) (by show w.heap.size ≤ w1.heap.size; exact HB1.out.size) _)⟩
      by_cases k2 : t.kind = 2
      · have HKD := Lib.hid k2
        have e1 : (t.kind == 1) = false := by simp [k2]
        have e8 : (t.kind == 8) = false := by simp [k2]
        have e2 : (t.kind == 2) = true := by simp [k2]
        clear k1 k8
        clear k2
        have c3 := cell_of_blk HKN.out 3
        have cz := unfrozen_of_blk HKN.out
        have HRD := Lib.hid (redI_any t.n)
        go_wp2_with fail
        go_region_held3 (fun w' => w'.cell? ⟨w.heap.size, 3, none⟩ = some (.int .i64 t.n) ∧ w'.heap[w1.heap.size]? = some (.cells (tmC t tp tc rp rc p c) 36 (0, 0)) ∧ Below w.heap.size w w')
          (first
            | (go_keep; done)
            | exact ⟨g3, HKN.out, HBN.out.drew⟩
            | assumption)
          (first
            | (go_at_call 73; refine (HRD.out _).mono ?_; rintro e w5 ⟨rfl, rfl⟩))
        rename_i hH
        clear hH
        go_wp2_with fail
        go_meet
        exact ⟨_, (.mk t.kind t.name t.other 0 t.ty t.res t.args), tp, tc, rp, rc, rfl, Bx9.of (blk_new w1 _), clear_num (by have := HKD.out; omega) (by have := HKD.out; omega) (by have := HKD.out; omega) HAR.out (by rw [beq_iff_eq, Tm.most, if_pos HKD.out]; omega), (HB1.out.trans ((al_below w1 _).mono HB1.out.size)).drew⟩
      by_cases k3 : t.kind = 3
      · have HKD := Lib.hid k3
        have e1 : (t.kind == 1) = false := by simp [k3]
        have e8 : (t.kind == 8) = false := by simp [k3]
        have e2 : (t.kind == 2) = false := by simp [k3]
        have e3 : (t.kind == 3) = true := by simp [k3]
        clear k1 k8 k2
        clear k3
        have c3 := cell_of_blk HKN.out 3
        have cz := unfrozen_of_blk HKN.out
        by_cases z0 : t.n = 0
        · have z1 : (t.n == 0) = true := by simp [z0]
          have HZ := Lib.hid z0
          clear z0
          go_wp2_with fail
          go_meet
          exact ⟨_, (.mk t.kind t.name t.other 0 t.ty t.res t.args), tp, tc, rp, rc, rfl, Bx9.of (blk_new w1 _), clear_num (by have := HKD.out; omega) (by have := HKD.out; omega) (by have := HKD.out; omega) HAR.out (by rw [Tm.most, if_neg (by have := HKD.out; omega), if_pos HKD.out]; have := HZ.out; simp only [true_iff]; omega), (HB1.out.trans ((al_below w1 _).mono HB1.out.size))⟩
        · have z1 : (t.n == 0) = false := by simp [z0]
          have HZ := Lib.hid z0
          clear z0
          go_wp2_with fail
          go_meet
          exact ⟨_, (.mk t.kind t.name t.other 0 t.ty t.res t.args), tp, tc, rp, rc, rfl, Bx9.of (blk_new w1 _), clear_num (by have := HKD.out; omega) (by have := HKD.out; omega) (by have := HKD.out; omega) HAR.out (by rw [Tm.most, if_neg (by have := HKD.out; omega), if_pos HKD.out]; have := HZ.out; rw [beq_iff_eq]; omega), (HB1.out.trans ((al_below w1 _).mono HB1.out.size))⟩
      by_cases k4 : t.kind = 4
      · have HKD := Lib.hid k4
        have e1 : (t.kind == 1) = false := by simp [k4]
        have e8 : (t.kind == 8) = false := by simp [k4]
        have e2 : (t.kind == 2) = false := by simp [k4]
        have e3 : (t.kind == 3) = false := by simp [k4]
        have e4 : (t.kind == 4) = true := by simp [k4]
        clear k1 k8 k2 k3
        clear k4
        have c1 := cell_of_blk HKN.out 1
        have cz := unfrozen_of_blk HKN.out
        go_wp2_with fail
        go_meet
        exact ⟨_, (.mk t.kind ⟨#[]⟩ t.other t.n t.ty t.res t.args), tp, tc, rp, rc, rfl, Bx9.of (blk_new w1 _), clear_op HKD.out HAR.out, (HB1.out.trans ((al_below w1 _).mono HB1.out.size))⟩
      by_cases k6 : t.kind = 6
      · have HKD := Lib.hid k6
        have e1 : (t.kind == 1) = false := by simp [k6]
        have e8 : (t.kind == 8) = false := by simp [k6]
        have e2 : (t.kind == 2) = false := by simp [k6]
        have e3 : (t.kind == 3) = false := by simp [k6]
        have e4 : (t.kind == 4) = false := by simp [k6]
        have e6 : (t.kind == 6) = true := by simp [k6]
        clear k1 k8 k2 k3 k4
        clear k6
        go_wp2_with fail
        refine (HNM.out _).mono ?_
        rintro e w2 ⟨r2, hr2, rfl, hb2⟩
        have HR2 := Lib.hid hr2
        clear hr2
        have HB2 := Lib.hid (HBN.out.trans (hb2.mono HBN.out.size))
        have HX2 := Lib.hid (HXN.out.keep hb2)
        have HK2 := Lib.hid ((hb2.block _ (Array.getElem?_eq_some_iff.1 HKN.out).1).trans HKN.out)
        clear hb2 g0 g1 g2 g3 g4 g5 g6 g7 g8
        obtain ⟨g0, g1, g2, g3, g4, g5, g6, g7, g8⟩ := HX2.out
        have c1 := cell_of_blk HK2.out 1
        have c4 := cell_of_blk HK2.out 4
        have c5 := cell_of_blk HK2.out 5
        have cz := unfrozen_of_blk HK2.out
        cases r2 with
        | false =>
          go_wp2_with fail
          go_meet
          exact ⟨_, (.mk t.kind ⟨#[]⟩ t.other t.n (.mk 0 []) t.res t.args), none, 0, rp, rc, rfl, Bx9.of (by rw [Go.Joins.block_setCell (Go.Joins.block_setCell (Go.Joins.block_setCell HK2.out _) _) _]; rfl), clear_six HKD.out HAR.out ⟨fun h => (by cases h), fun h => absurd (HR2.out.2 h.1) (by decide)⟩, (((HB2.out.setCell (p := ⟨w1.heap.size, 1, none⟩) (by show w.heap.size ≤ w1.heap.size; exact HB1.out.size) _).setCell (p := ⟨w1.heap.size, 4, none⟩) (by show w.heap.size ≤ w1.heap.size; exact HB1.out.size) _).setCell (p := ⟨w1.heap.size, 5, none⟩) (by show w.heap.size ≤ w1.heap.size; exact HB1.out.size) _)⟩
        | true =>
          clear c1 c4 c5 cz
          go_wp2_with fail
          refine (HVT.out _ HB2.out).mono ?_
          rintro e w3 ⟨r3, hr3, rfl, hb3⟩
          have HR3 := Lib.hid hr3
          clear hr3
          have HB3 := Lib.hid (HB2.out.trans (hb3.mono HB2.out.size))
          have HX3 := Lib.hid (HX2.out.keep hb3)
          have HK3 := Lib.hid ((hb3.block _ (Array.getElem?_eq_some_iff.1 HK2.out).1).trans HK2.out)
          clear hb3 g0 g1 g2 g3 g4 g5 g6 g7 g8
          obtain ⟨g0, g1, g2, g3, g4, g5, g6, g7, g8⟩ := HX3.out
          have c1 := cell_of_blk HK3.out 1
          have c4 := cell_of_blk HK3.out 4
          have c5 := cell_of_blk HK3.out 5
          have cz := unfrozen_of_blk HK3.out
          go_wp2_with fail
          go_meet
          exact ⟨_, (.mk t.kind ⟨#[]⟩ t.other t.n (.mk 0 []) t.res t.args), none, 0, rp, rc, rfl, Bx9.of (by rw [Go.Joins.block_setCell (Go.Joins.block_setCell (Go.Joins.block_setCell HK3.out _) _) _]; rfl), clear_six HKD.out HAR.out (by rw [HR3.out]; exact ⟨fun h => ⟨HR2.out.1 (by trivial), h⟩, fun h => h.2⟩), (((HB3.out.setCell (p := ⟨w1.heap.size, 1, none⟩) (by show w.heap.size ≤ w1.heap.size; exact HB1.out.size) _).setCell (p := ⟨w1.heap.size, 4, none⟩) (by show w.heap.size ≤ w1.heap.size; exact HB1.out.size) _).setCell (p := ⟨w1.heap.size, 5, none⟩) (by show w.heap.size ≤ w1.heap.size; exact HB1.out.size) _)⟩
      by_cases k9 : t.kind = 9
      · have HKD := Lib.hid k9
        have e1 : (t.kind == 1) = false := by simp [k9]
        have e8 : (t.kind == 8) = false := by simp [k9]
        have e2 : (t.kind == 2) = false := by simp [k9]
        have e3 : (t.kind == 3) = false := by simp [k9]
        have e4 : (t.kind == 4) = false := by simp [k9]
        have e6 : (t.kind == 6) = false := by simp [k9]
        have e9 : (t.kind == 9) = true := by simp [k9]
        clear k1 k8 k2 k3 k4 k6
        clear k9
        go_wp2_with fail
        refine (HNM.out _).mono ?_
        rintro e w2 ⟨r2, hr2, rfl, hb2⟩
        have HR2 := Lib.hid hr2
        clear hr2
        have HB2 := Lib.hid (HBN.out.trans (hb2.mono HBN.out.size))
        have HX2 := Lib.hid (HXN.out.keep hb2)
        have HK2 := Lib.hid ((hb2.block _ (Array.getElem?_eq_some_iff.1 HKN.out).1).trans HKN.out)
        clear hb2 g0 g1 g2 g3 g4 g5 g6 g7 g8
        obtain ⟨g0, g1, g2, g3, g4, g5, g6, g7, g8⟩ := HX2.out
        cases r2 with
        | false =>
          have c1 := cell_of_blk HK2.out 1
          have c2 := cell_of_blk HK2.out 2
          have c4 := cell_of_blk HK2.out 4
          have c5 := cell_of_blk HK2.out 5
          have c6 := cell_of_blk HK2.out 6
          have c7 := cell_of_blk HK2.out 7
          have cz := unfrozen_of_blk HK2.out
          go_wp2_with fail
          go_meet
          exact ⟨_, (.mk t.kind ⟨#[]⟩ ⟨#[]⟩ t.n (.mk 0 []) (.mk 0 []) t.args), none, 0, none, 0, rfl, Bx9.of (by rw [Go.Joins.block_setCell (Go.Joins.block_setCell (Go.Joins.block_setCell (Go.Joins.block_setCell (Go.Joins.block_setCell (Go.Joins.block_setCell HK2.out _) _) _) _) _) _]; rfl), clear_nine HKD.out HAR.out ⟨fun h => (by cases h), fun h => absurd (HR2.out.2 h.1) (by decide)⟩, ((((((HB2.out.setCell (p := ⟨w1.heap.size, 1, none⟩) (by show w.heap.size ≤ w1.heap.size; exact HB1.out.size) _).setCell (p := ⟨w1.heap.size, 2, none⟩) (by show w.heap.size ≤ w1.heap.size; exact HB1.out.size) _).setCell (p := ⟨w1.heap.size, 4, none⟩) (by show w.heap.size ≤ w1.heap.size; exact HB1.out.size) _).setCell (p := ⟨w1.heap.size, 5, none⟩) (by show w.heap.size ≤ w1.heap.size; exact HB1.out.size) _).setCell (p := ⟨w1.heap.size, 6, none⟩) (by show w.heap.size ≤ w1.heap.size; exact HB1.out.size) _).setCell (p := ⟨w1.heap.size, 7, none⟩) (by show w.heap.size ≤ w1.heap.size; exact HB1.out.size) _)⟩
        | true =>
          go_wp2_with fail
          refine (HNO.out _).mono ?_
          rintro e w3 ⟨r3, hr3, rfl, hb3⟩
          have HR3 := Lib.hid hr3
          clear hr3
          have HB3 := Lib.hid (HB2.out.trans (hb3.mono HB2.out.size))
          have HX3 := Lib.hid (HX2.out.keep hb3)
          have HK3 := Lib.hid ((hb3.block _ (Array.getElem?_eq_some_iff.1 HK2.out).1).trans HK2.out)
          clear hb3 g0 g1 g2 g3 g4 g5 g6 g7 g8
          obtain ⟨g0, g1, g2, g3, g4, g5, g6, g7, g8⟩ := HX3.out
          cases r3 with
          | false =>
            have c1 := cell_of_blk HK3.out 1
            have c2 := cell_of_blk HK3.out 2
            have c4 := cell_of_blk HK3.out 4
            have c5 := cell_of_blk HK3.out 5
            have c6 := cell_of_blk HK3.out 6
            have c7 := cell_of_blk HK3.out 7
            have cz := unfrozen_of_blk HK3.out
            go_wp2_with fail
            go_meet
            exact ⟨_, (.mk t.kind ⟨#[]⟩ ⟨#[]⟩ t.n (.mk 0 []) (.mk 0 []) t.args), none, 0, none, 0, rfl, Bx9.of (by rw [Go.Joins.block_setCell (Go.Joins.block_setCell (Go.Joins.block_setCell (Go.Joins.block_setCell (Go.Joins.block_setCell (Go.Joins.block_setCell HK3.out _) _) _) _) _) _]; rfl), clear_nine HKD.out HAR.out ⟨fun h => (by cases h), fun h => absurd (HR3.out.2 h.2.1) (by decide)⟩, ((((((HB3.out.setCell (p := ⟨w1.heap.size, 1, none⟩) (by show w.heap.size ≤ w1.heap.size; exact HB1.out.size) _).setCell (p := ⟨w1.heap.size, 2, none⟩) (by show w.heap.size ≤ w1.heap.size; exact HB1.out.size) _).setCell (p := ⟨w1.heap.size, 4, none⟩) (by show w.heap.size ≤ w1.heap.size; exact HB1.out.size) _).setCell (p := ⟨w1.heap.size, 5, none⟩) (by show w.heap.size ≤ w1.heap.size; exact HB1.out.size) _).setCell (p := ⟨w1.heap.size, 6, none⟩) (by show w.heap.size ≤ w1.heap.size; exact HB1.out.size) _).setCell (p := ⟨w1.heap.size, 7, none⟩) (by show w.heap.size ≤ w1.heap.size; exact HB1.out.size) _)⟩
          | true =>
            by_cases hq : t.name = t.other
            · have hq1 := str_yes hq
              have HQ := Lib.hid hq
              clear hq
              have c1 := cell_of_blk HK3.out 1
              have c2 := cell_of_blk HK3.out 2
              have c4 := cell_of_blk HK3.out 4
              have c5 := cell_of_blk HK3.out 5
              have c6 := cell_of_blk HK3.out 6
              have c7 := cell_of_blk HK3.out 7
              have cz := unfrozen_of_blk HK3.out
              go_wp2_with fail
              go_meet
              exact ⟨_, (.mk t.kind ⟨#[]⟩ ⟨#[]⟩ t.n (.mk 0 []) (.mk 0 []) t.args), none, 0, none, 0, rfl, Bx9.of (by rw [Go.Joins.block_setCell (Go.Joins.block_setCell (Go.Joins.block_setCell (Go.Joins.block_setCell (Go.Joins.block_setCell (Go.Joins.block_setCell HK3.out _) _) _) _) _) _]; rfl), clear_nine HKD.out HAR.out ⟨fun h => (by cases h), fun h => absurd HQ.out h.2.2.1⟩, ((((((HB3.out.setCell (p := ⟨w1.heap.size, 1, none⟩) (by show w.heap.size ≤ w1.heap.size; exact HB1.out.size) _).setCell (p := ⟨w1.heap.size, 2, none⟩) (by show w.heap.size ≤ w1.heap.size; exact HB1.out.size) _).setCell (p := ⟨w1.heap.size, 4, none⟩) (by show w.heap.size ≤ w1.heap.size; exact HB1.out.size) _).setCell (p := ⟨w1.heap.size, 5, none⟩) (by show w.heap.size ≤ w1.heap.size; exact HB1.out.size) _).setCell (p := ⟨w1.heap.size, 6, none⟩) (by show w.heap.size ≤ w1.heap.size; exact HB1.out.size) _).setCell (p := ⟨w1.heap.size, 7, none⟩) (by show w.heap.size ≤ w1.heap.size; exact HB1.out.size) _)⟩
            · have hq1 := str_no hq
              have HQ := Lib.hid hq
              clear hq
              go_wp2_with fail
              refine (HVT.out _ HB3.out).mono ?_
              rintro e w4 ⟨r4, hr4, rfl, hb4⟩
              have HR4 := Lib.hid hr4
              clear hr4
              have HB4 := Lib.hid (HB3.out.trans (hb4.mono HB3.out.size))
              have HX4 := Lib.hid (HX3.out.keep hb4)
              have HK4 := Lib.hid ((hb4.block _ (Array.getElem?_eq_some_iff.1 HK3.out).1).trans HK3.out)
              clear hb4 g0 g1 g2 g3 g4 g5 g6 g7 g8
              obtain ⟨g0, g1, g2, g3, g4, g5, g6, g7, g8⟩ := HX4.out
              cases r4 with
              | false =>
                have c1 := cell_of_blk HK4.out 1
                have c2 := cell_of_blk HK4.out 2
                have c4 := cell_of_blk HK4.out 4
                have c5 := cell_of_blk HK4.out 5
                have c6 := cell_of_blk HK4.out 6
                have c7 := cell_of_blk HK4.out 7
                have cz := unfrozen_of_blk HK4.out
                go_wp2_with fail
                go_meet
                exact ⟨_, (.mk t.kind ⟨#[]⟩ ⟨#[]⟩ t.n (.mk 0 []) (.mk 0 []) t.args), none, 0, none, 0, rfl, Bx9.of (by rw [Go.Joins.block_setCell (Go.Joins.block_setCell (Go.Joins.block_setCell (Go.Joins.block_setCell (Go.Joins.block_setCell (Go.Joins.block_setCell HK4.out _) _) _) _) _) _]; rfl), clear_nine HKD.out HAR.out ⟨fun h => (by cases h), fun h => absurd (HR4.out.trans h.2.2.2.1) (by decide)⟩, ((((((HB4.out.setCell (p := ⟨w1.heap.size, 1, none⟩) (by show w.heap.size ≤ w1.heap.size; exact HB1.out.size) _).setCell (p := ⟨w1.heap.size, 2, none⟩) (by show w.heap.size ≤ w1.heap.size; exact HB1.out.size) _).setCell (p := ⟨w1.heap.size, 4, none⟩) (by show w.heap.size ≤ w1.heap.size; exact HB1.out.size) _).setCell (p := ⟨w1.heap.size, 5, none⟩) (by show w.heap.size ≤ w1.heap.size; exact HB1.out.size) _).setCell (p := ⟨w1.heap.size, 6, none⟩) (by show w.heap.size ≤ w1.heap.size; exact HB1.out.size) _).setCell (p := ⟨w1.heap.size, 7, none⟩) (by show w.heap.size ≤ w1.heap.size; exact HB1.out.size) _)⟩
              | true =>
                go_wp2_with fail
                refine (HVR.out _ HB4.out).mono ?_
                rintro e w5 ⟨r5, hr5, rfl, hb5⟩
                have HR5 := Lib.hid hr5
                clear hr5
                have HB5 := Lib.hid (HB4.out.trans (hb5.mono HB4.out.size))
                have HX5 := Lib.hid (HX4.out.keep hb5)
                have HK5 := Lib.hid ((hb5.block _ (Array.getElem?_eq_some_iff.1 HK4.out).1).trans HK4.out)
                clear hb5 g0 g1 g2 g3 g4 g5 g6 g7 g8
                obtain ⟨g0, g1, g2, g3, g4, g5, g6, g7, g8⟩ := HX5.out
                have c1 := cell_of_blk HK5.out 1
                have c2 := cell_of_blk HK5.out 2
                have c4 := cell_of_blk HK5.out 4
                have c5 := cell_of_blk HK5.out 5
                have c6 := cell_of_blk HK5.out 6
                have c7 := cell_of_blk HK5.out 7
                have cz := unfrozen_of_blk HK5.out
                go_wp2_with fail
                go_meet
                exact ⟨_, (.mk t.kind ⟨#[]⟩ ⟨#[]⟩ t.n (.mk 0 []) (.mk 0 []) t.args), none, 0, none, 0, rfl, Bx9.of (by rw [Go.Joins.block_setCell (Go.Joins.block_setCell (Go.Joins.block_setCell (Go.Joins.block_setCell (Go.Joins.block_setCell (Go.Joins.block_setCell HK5.out _) _) _) _) _) _]; rfl), clear_nine HKD.out HAR.out (by rw [HR5.out]; exact ⟨fun h => ⟨HR2.out.1 (by trivial), HR3.out.1 (by trivial), HQ.out, HR4.out.symm, h⟩, fun h => h.2.2.2.2⟩), ((((((HB5.out.setCell (p := ⟨w1.heap.size, 1, none⟩) (by show w.heap.size ≤ w1.heap.size; exact HB1.out.size) _).setCell (p := ⟨w1.heap.size, 2, none⟩) (by show w.heap.size ≤ w1.heap.size; exact HB1.out.size) _).setCell (p := ⟨w1.heap.size, 4, none⟩) (by show w.heap.size ≤ w1.heap.size; exact HB1.out.size) _).setCell (p := ⟨w1.heap.size, 5, none⟩) (by show w.heap.size ≤ w1.heap.size; exact HB1.out.size) _).setCell (p := ⟨w1.heap.size, 6, none⟩) (by show w.heap.size ≤ w1.heap.size; exact HB1.out.size) _).setCell (p := ⟨w1.heap.size, 7, none⟩) (by show w.heap.size ≤ w1.heap.size; exact HB1.out.size) _)⟩
      have e1 : (t.kind == 1) = false := by simp [k1]
      have e8 : (t.kind == 8) = false := by simp [k8]
      have e2 : (t.kind == 2) = false := by simp [k2]
      have e3 : (t.kind == 3) = false := by simp [k3]
      have e4 : (t.kind == 4) = false := by simp [k4]
      have e6 : (t.kind == 6) = false := by simp [k6]
      have e9 : (t.kind == 9) = false := by simp [k9]
      have HKO := Lib.hid (And.intro k4 (And.intro (show ¬ (t.kind = 1 ∨ t.kind = 6 ∨ t.kind = 8) by omega) (And.intro k9 (And.intro k2 k3))))
      clear k1 k8 k2 k3 k4 k6 k9
      go_wp2_with fail
      go_meet
      exact ⟨_, t, tp, tc, rp, rc, rfl, Bx9.of HKN.out, (by have := clear_oth HKO.out.1 HKO.out.2.1 HKO.out.2.2.1 HKO.out.2.2.2.1 HKO.out.2.2.2.2 HAR.out; rwa [← t.eta] at this), HBN.out⟩
    case rest =>
      obtain ⟨pr, u, tp', tc', rp', rc', rfl, hx, hiff, hbx⟩ := hcut
      have HI := Lib.hid hiff
      have HBX := Lib.hid hbx
      have HXU := Lib.hid hx
      clear hiff hbx hx g0 g1 g2 g3 g4 g5 g6 g7 g8
      obtain ⟨d0, d1, d2, d3, d4, d5, d6, d7, d8⟩ := HXU.out
      cases pr with
      | false =>
        go_wp2_with fail
        go_ret
        exact ⟨_, lit_f (fun h => by have := (HI.out.2 h).1; cases this), rfl, HBX.out⟩
      | true =>
        by_cases z1 : u.name.toList = []
        case neg =>
          have q1 : (u.name.toList == []) = false := by simpa using z1
          have HZ1 := Lib.hid z1
          clear z1
          go_wp2_with fail
          go_ret
          exact ⟨_, lit_f (fun h => HZ1.out (HI.out.2 h).2.1), rfl, HBX.out⟩
        have q1 : (u.name.toList == []) = true := by simpa using z1
        have HZ1 := Lib.hid z1
        clear z1
        by_cases z2 : u.other.toList = []
        case neg =>
          have q2 : (u.other.toList == []) = false := by simpa using z2
          have HZ2 := Lib.hid z2
          clear z2
          go_wp2_with fail
          go_ret
          exact ⟨_, lit_f (fun h => HZ2.out (HI.out.2 h).2.2.1), rfl, HBX.out⟩
        have q2 : (u.other.toList == []) = true := by simpa using z2
        have HZ2 := Lib.hid z2
        clear z2
        by_cases z3 : u.n = 0
        case neg =>
          have q3 : (u.n == 0) = false := by simpa using z3
          have HZ3 := Lib.hid z3
          clear z3
          go_wp2_with fail
          go_ret
          exact ⟨_, lit_f (fun h => HZ3.out (HI.out.2 h).2.2.2.1), rfl, HBX.out⟩
        have q3 : (u.n == 0) = true := by simpa using z3
        have HZ3 := Lib.hid z3
        clear z3
        go_wp2_with fail
        refine (zeroI_any _ _ _ _ _).mono ?_
        rintro e w8 ⟨r8, hr8, rfl, hb8⟩
        have HR8 := Lib.hid hr8
        have HB8 := Lib.hid (HBX.out.trans (hb8.mono HBX.out.size))
        clear hr8 d0 d1 d2 d3 d4 d5 d6 d7 d8
        obtain ⟨d0, d1, d2, d3, d4, d5, d6, d7, d8⟩ := HXU.out.keep hb8
        clear hb8
        cases r8 with
        | false =>
          go_wp2_with fail
          go_ret
          exact ⟨_, lit_f (fun h => by have := HR8.out.2 (HI.out.2 h).2.2.2.2.1; cases this), rfl, HB8.out⟩
        | true =>
          go_wp2_with fail
          refine (zeroI_any _ _ _ _ _).mono ?_
          rintro e w9 ⟨r9, hr9, rfl, hb9⟩
          have HR9 := Lib.hid hr9
          have HB9 := Lib.hid (HB8.out.trans (hb9.mono HB8.out.size))
          clear hr9 hb9 d0 d1 d2 d3 d4 d5 d6 d7 d8
          go_wp2_with fail
          go_ret
          exact ⟨_, ⟨fun h => HI.out.1 ⟨by trivial, HZ1.out, HZ2.out, HZ3.out, HR8.out.1 (by trivial), HR9.out.1 h⟩, fun h => HR9.out.2 (HI.out.2 h).2.2.2.2.2⟩, rfl, HB9.out⟩
#print axioms formI_any
end Go.Proofs.YtdfnjfelmfccjaaDoor
/- PlainT: The contract of the program's IsPlainType. -/
namespace Go.Proofs.YtdfnjfelmfccjaaDoor
open Go Go.RowKit Go.Shelf
attribute [local go_sem] Oper.semAt_some

set_option maxRecDepth 100000 in
set_option maxHeartbeats 2000000 in
theorem plainI_any {C : Nat → Prop} {t : Ty} {v : Value} {w : World} (h : TT w C t v) (hn : nodesS t.args ≤ 2097152) :
    Calls Tryd.prog 79 #[v] w (BoolRet (fun r => r = t.plain) w) := by
  have HT := Lib.hid (fun w' (hb : Below w.heap.size w w') => h.keep hb)
  obtain ⟨s, rfl, hS⟩ := h
  obtain ⟨p, c, rfl⟩ := hS.form
  have HS := Lib.hid (hS.mono (C' := (· < w.heap.size)) (fun b _ h => h))
  clear hS
  have hnt : t.nodes ≤ 2097153 := by have := t.nodes_eq; omega
  have hb0 := ((Below.refl w.heap.size w).alloc (Nat.le_refl _) (Obj.cells #[.int .i64 t.kind, .slice p t.args.length c] 33)).alloc (by simp) (Obj.cells #[.bool false] 4)
  have hk0 : ((w.alloc (.cells #[.int .i64 t.kind, .slice p t.args.length c] 33)).alloc (.cells #[.bool false] 4)).heap[w.heap.size]? = some (.cells #[.int .i64 t.kind, .slice p t.args.length c] 33 (0, 0)) := by
    rw [Below.heap_alloc _ _ _ (by simp)]; exact blk_new _ _
  have hk1 : ((w.alloc (.cells #[.int .i64 t.kind, .slice p t.args.length c] 33)).alloc (.cells #[.bool false] 4)).heap[w.heap.size + 1]? = some (.cells #[.bool false] 4 (0, 0)) := by
    have := blk_new (w.alloc (.cells #[.int .i64 t.kind, .slice p t.args.length c] 33)) (.cells #[.bool false] 4)
    rwa [World.size_alloc] at this
  have HB0 := Lib.hid hb0
  have HK0 := Lib.hid hk0
  have HK1 := Lib.hid hk1
  clear hb0 hk0 hk1
  refine (callsIn_wide (n := 2)).1 ?_
  refine callsIn_of_wp_marks Tryd.func79 rfl trivial ?_ rfl
  simp only [Tryd.ntmps79, List.size_toArray, List.length_cons, List.length_nil, Nat.reduceAdd, Nat.reduceSub, Array.replicate_succ, Array.replicate_zero, List.push_toArray, List.append_toArray, List.nil_append, List.cons_append]
  gi_wp2_with fail
  refine ⟨trivial, ?_⟩
  refine (callsIn_wide.2 (validI_any (HT.out _ HB0.out) hn)).mono ?_
  rintro e w1 ⟨r, hr, rfl, hb1⟩
  have HR := Lib.hid hr
  have hk0 := (hb1.block _ (by simp; omega)).trans HK0.out
  have hk1 := (hb1.block _ (by simp)).trans HK1.out
  have HB1 := Lib.hid (HB0.out.trans (hb1.mono HB0.out.size))
  have hsz1 : w.heap.size + 2 ≤ w1.heap.size := by have := hb1.size; simp at this; omega
  have c0 := cell_of_blk hk0 0
  have c1 := cell_of_blk hk0 1
  have r0 := cell_of_blk hk1 0
  have rz := unfrozen_of_blk hk1 0
  simp only [List.getElem?_toArray, List.getElem?_cons_zero, List.getElem?_cons_succ] at c0 c1 r0
  have HK1' := Lib.hid hk1
  clear hr hb1 hk0 hk1
  cases r with
  | false =>
    have hcc := World.cell?_setCell_same' w1 ⟨w.heap.size + 1, 0, none⟩ (.bool false) (by rw [r0]; rfl)
    gi_wp2_with fail
    refine ⟨.bool false, ?_, _, by rw [Ty.plain, ← HR.out]; rfl, rfl, HB1.out.setCell (p := ⟨w.heap.size + 1, 0, none⟩) (by show w.heap.size ≤ w.heap.size + 1; omega) _⟩
    rw [results_cell1 rfl]
    go_simp
  | true =>
    have HK := Lib.hid (fun (W : World) (hb : Below w1.heap.size w1 W) => tnT_any (t := t) (p := p) (c := c) (C := (· < w.heap.size)) ((HS.out.keep HB1.out).stays (.of_below hb)))
    gi_wp2_with fail
    refine ⟨trivial, ?_⟩
    refine (callsIn_wide.2 (HK.out _ (Below.refl _ _))).mono ?_
    rintro e wl ⟨Bt, Bp, rfl, hI, hbw, hBt, hBp⟩
    have hsz := hbw.size
    have hbl : Below w.heap.size w wl := HB1.out.trans (hbw.mono HB1.out.size)
    have k1 : wl.heap[w.heap.size + 1]? = some (.cells #[.bool false] 4 (0, 0)) := (hbw.block _ (by omega)).trans HK1'.out
    have hbp := (Array.getElem?_eq_some_iff.1 hI.bp).1
    have HSL : TS wl (fun b => b < w.heap.size ∨ b = Bp) t.args (.slice p t.args.length c) := (HS.out.keep hbl).mono (fun z hz _ => Or.inl hz)
    gi_wp2_with fail
    refine range_law (F := Fence.wide) (n := 2) rfl (by omega) (gf := 103) (lb := #[.pointer (some ⟨Bt, 0, none⟩), .pointer (some ⟨Bp, 0, none⟩)]) rfl trivial (enters_of Tryd.func103 (by kernel_rfl) rfl)
      (nodesT_seq2 hI HSL hnt (Below.refl _ _) (fun b => b = w.heap.size + 1) (fun b h => by omega) (fun b h => by omega) (Or.inr rfl)) (fun _ => rfl) (fun b h => by omega)
      (fun pre W => W.heap[w.heap.size + 1]? = some (.cells #[.bool false] 4 (0, 0)) ∧ NoCode pre ∧ Below w.heap.size w W)
      (fun j pre W => j = .ret ∧ W.cell? ⟨w.heap.size + 1, 0, none⟩ = some (.bool false) ∧ t.plain = false ∧ Below w.heap.size w W)
      (fun pre A B h hb => ⟨(hb.block _ (by omega)).trans h.1, h.2.1, h.2.2.trans (hb.mono (by omega))⟩)
      (fun j pre A B h hb => ⟨h.1, (hb.cell (by show w.heap.size + 1 < _; omega)).trans h.2.1, h.2.2.1, h.2.2.2.trans (hb.mono (by omega))⟩)
      (goodT_keep (fun b h => by omega)) ⟨k1, (fun e he => absurd he (List.not_mem_nil)), hbl⟩
      (fun x a' W => ∃ bx, W.heap[bx]? = some (.cells x.2.1.cells 33 (0, 0)) ∧ a' = { tmps := #[.agg #[.int .i64 t.kind, .slice p t.args.length c], .pointer (some ⟨w.heap.size, 0, none⟩), .pointer (some ⟨w.heap.size + 1, 0, none⟩), .pointer (some ⟨bx, 0, none⟩),
        .agg #[.int .i64 t.kind, .slice p t.args.length c], .bool true, .bool false, .agg #[.int .i64 t.kind, .slice p t.args.length c], iterT Bt Bp, x.2.1, .int .i64 (x.2.2 : Nat), undef, undef], defers := [] })
      (fun x a' W l r o h hl => by
        obtain ⟨bx, h2, h3⟩ := h
        exact ⟨bx, (World.putObj_heap_other (fun e => by rw [e, hl] at h2; cases h2)).trans h2, h3⟩) ?assign ?body ?done ?stop
    case assign =>
      rintro l ⟨x, v, d⟩ W K hG hK
      have hG : TT W _ x v := hG
      obtain ⟨s', rfl, hG'⟩ := hG
      obtain ⟨p', c', rfl⟩ := hG'.form
      have HK := Lib.hid hK
      clear hK
      gi_wp2
      exact HK.out _ _ ((Below.refl _ _).alloc (Nat.le_refl _) _) ⟨W.heap.size, blk_new _ _, by simp⟩
    case body =>
      rintro l pre ⟨x, v, d⟩ a' W ⟨hr, hso, hB⟩ hpre hG ⟨bx, hbx, rfl⟩
      have hpre : pre ++ [(x, d)] <+: walkT t 1 := hpre
      have hbx : W.heap[bx]? = some (.cells v.cells 33 (0, 0)) := hbx
      have hG : TT W _ x v := hG
      obtain ⟨s', rfl, hG'⟩ := hG
      obtain ⟨p', c', rfl⟩ := hG'.form
      simp only [Value.cells] at hbx
      have x0 := cell_of_blk hbx 0
      have x1 := cell_of_blk hbx 1
      simp only [List.getElem?_toArray, List.getElem?_cons_zero, List.getElem?_cons_succ] at x0 x1
      have HG := Lib.hid hG'
      have HR1 := Lib.hid hr
      have HB1 := Lib.hid hB
      have HSO := Lib.hid hso
      have HP := Lib.hid hpre
      clear hso hpre hr hbx hB k1 hG' HSL hbl hbw c0 c1 r0 rz hI
      gi_wp2_with fail
      refine ⟨trivial, rfl, ?_⟩
      refine (CallsIn.inRound l (callsIn_wide.2 (isCode_any (t := x) ⟨_, rfl, HG.out⟩))).mono ?_
      rintro e W2 ⟨b, hb, rfl, hb2⟩
      have l2 := (Array.getElem?_eq_some_iff.1 HR1.out).1
      have HR2 := Lib.hid ((hb2.block _ l2).trans HR1.out)
      have r2 := cell_of_blk HR2.out 0
      have rz := unfrozen_of_blk HR2.out 0
      simp only [List.getElem?_toArray, List.getElem?_cons_zero] at r2
      have hH2 : Holds (fun b => b = w.heap.size + 1) W W2 := .of_below hb2
      have hB2 : Below w.heap.size w W2 := HB1.out.trans (hb2.mono HB1.out.size)
      have HBB := Lib.hid hb
      have HH2 := Lib.hid hH2
      have HB2 := Lib.hid hB2
      clear hb hb2 hH2 hB2 x0 x1 l2
      cases b with
      | true =>
        have hcc := World.cell?_setCell_same' W2 ⟨w.heap.size + 1, 0, none⟩ (.bool false) (by rw [r2]; rfl)
        have HCC := Lib.hid hcc
        clear hcc
        gi_wp2_with fail
        exact ⟨HH2.out.setCell ⟨w.heap.size + 1, 0, none⟩ rfl _, rfl, HCC.out, not_plain_at HP.out HBB.out.symm, HB2.out.setCell (p := ⟨w.heap.size + 1, 0, none⟩) (by show w.heap.size ≤ w.heap.size + 1; omega) _⟩
      | false =>
        gi_wp2_with fail
        exact ⟨HH2.out, HR2.out, HSO.out.next HBB.out.symm, HB2.out⟩
    case done =>
      rintro D W hD ⟨hr, hso, hB⟩ hK
      have r0 := cell_of_blk hr 0
      have rz := unfrozen_of_blk hr 0
      simp only [List.getElem?_toArray, List.getElem?_cons_zero] at r0
      have HV := Lib.hid (plain_of HR.out.symm hso)
      have HB := Lib.hid hB
      have hK' : (W.setCell ⟨w.heap.size + 1, 0, none⟩ (.bool true)).heap[D]? = some (.deferred (some [])) := (Below.heap_setCell _ _ _ _ (by show D ≠ w.heap.size + 1; omega)).trans hK
      clear hso hB hr hK k1 HSL hbl hbw hI
      gi_wp2_with fail
      refine ⟨by simp, .inl ⟨_, _, rfl, run_takeDeferred hK', ?_⟩⟩
      have hc := (World.cell?_of_block (a := ⟨w.heap.size + 1, 0, none⟩) (w' := (W.setCell ⟨w.heap.size + 1, 0, none⟩ (.bool true)).putObj D (.deferred none)) (World.putObj_heap_other (by show w.heap.size + 1 ≠ D; omega))).trans (World.cell?_setCell_same' W ⟨w.heap.size + 1, 0, none⟩ (.bool true) (by rw [r0]; rfl))
      refine ⟨.bool true, ?_, _, HV.out.symm, rfl, (HB.out.setCell (p := ⟨w.heap.size + 1, 0, none⟩) (by show w.heap.size ≤ w.heap.size + 1; omega) _).trans (below_putObj _ _ _ _ (by omega))⟩
      rw [results_cell1 rfl]
      go_simp
    case stop =>
      rintro D c pre W hD hpre ⟨rfl, hr, hv, hB⟩ hK
      have HB := Lib.hid hB
      have HV := Lib.hid hv
      clear hv hB k1 HSL hbl hbw hI
      gi_wp2_with fail
      refine ⟨by simp, .inl ⟨_, _, rfl, run_takeDeferred hK, ?_⟩⟩
      have hc := (World.cell?_of_block (a := ⟨w.heap.size + 1, 0, none⟩) (w' := W.putObj D (.deferred none)) (World.putObj_heap_other (by show w.heap.size + 1 ≠ D; omega))).trans hr
      refine ⟨.bool false, ?_, _, HV.out.symm, rfl, HB.out.trans (below_putObj _ _ _ _ (by omega))⟩
      rw [results_cell1 rfl]
      go_simp
#print axioms plainI_any
end Go.Proofs.YtdfnjfelmfccjaaDoor
/- LvPl: The contracts of the program's isStage, hasPlainTypes and IsPlain. -/
namespace Go.Proofs.YtdfnjfelmfccjaaDoor
open Go Go.RowKit Go.Shelf
attribute [local go_sem] Oper.semAt_some

set_option maxRecDepth 100000 in
set_option maxHeartbeats 1000000 in
theorem stageI_any (t : Tm) (tp : Option Addr) (tc : Nat) (rp : Option Addr) (rc : Nat) (p : Option Addr) (c : Nat) (w : World) :
    Calls Tryd.prog 49 #[tmV t tp tc rp rc p c] w (Tells (t.kind = 10 ∨ t.kind = 11 ∨ t.kind = 12 ∨ t.kind = 13) w) := by
  have HB0 := Lib.hid (al_below w (.cells (tmC t tp tc rp rc p c) 36))
  obtain ⟨g0, _, _, _, _, _, _, _, _⟩ := Bx9.new w t tp tc rp rc p c 36
  have HW := Lib.hid (show ((t.kind == 10) = true ∨ (t.kind == 10) = false ∧ (t.kind == 11) = true ∨ (t.kind == 10) = false ∧ (t.kind == 11) = false ∧ (t.kind == 12) = true ∨ (t.kind == 10) = false ∧ (t.kind == 11) = false ∧ (t.kind == 12) = false ∧ (t.kind == 13) = true) ∧ (t.kind = 10 ∨ t.kind = 11 ∨ t.kind = 12 ∨ t.kind = 13) ∨ ((t.kind == 10) = false ∧ (t.kind == 11) = false ∧ (t.kind == 12) = false ∧ (t.kind == 13) = false) ∧ ¬ (t.kind = 10 ∨ t.kind = 11 ∨ t.kind = 12 ∨ t.kind = 13) by
    simp only [beq_iff_eq, beq_eq_false_iff_ne]
    omega)
  rcases HW.out with ⟨⟨t1⟩ | ⟨t1, t2⟩ | ⟨t1, t2, t3⟩ | ⟨t1, t2, t3, t4⟩, hk⟩ | ⟨⟨t1, t2, t3, t4⟩, hk⟩
  all_goals
    have HK := Lib.hid hk
    clear hk
    go_enter Tryd.func49, Tryd.ntmps49
    go_wp2_with fail
    go_ret
    first
      | exact ⟨true, by simp only [true_iff]; exact HK.out, rfl, HB0.out⟩
      | exact ⟨false, by simp only [Bool.false_eq_true, false_iff]; exact HK.out, rfl, HB0.out⟩
#print axioms stageI_any

/-- What hasPlainTypes answers. -/
def Tm.pty (t : Tm) : Prop := (t.kind = 6 → t.ty.plain = true) ∧ (t.kind = 9 → t.ty.plain = true ∧ t.res.plain = true)
theorem pty_iff {t : Tm} (h : t.NodeOk) : t.pty ↔ t.ty.has 4 = false ∧ t.res.has 4 = false := by
  have hz : ∀ {x : Ty}, zeroT x → x.has 4 = false := fun {x} hz => by
    obtain ⟨h1, h2⟩ := hz
    obtain ⟨k, ts⟩ := x
    simp only [Ty.kind, Ty.args] at h1 h2
    obtain rfl := List.eq_nil_of_length_eq_zero h2
    subst h1
    simp [Ty.has, hasS]
  have hp : ∀ {x : Ty}, x.valid = true → (x.plain = true ↔ x.has 4 = false) := fun {x} hv => by
    unfold Ty.plain; rw [hv]; simp
  have hf := h.1
  unfold Tm.pty
  by_cases h6 : t.kind = 6
  · have hv := hf.ty1.1 (Or.inl h6)
    have h9 : ¬ t.kind = 9 := by omega
    have hr := (hf.res2.resolve_left h9)
    simp only [h6, hp hv, hz hr]
    simp
  · by_cases h9 : t.kind = 9
    · have hv := hf.ty1.1 (Or.inr h9)
      have hr := hf.res1.1 h9
      simp only [h9, hp hv, hp hr]
      simp
    · have h1 := hz (hf.ty2.resolve_left (by omega))
      have h2 := hz (hf.res2.resolve_left h9)
      simp [h6, h9, h1, h2]

set_option maxRecDepth 100000 in
set_option maxHeartbeats 1000000 in
theorem ptyI_any {C : Nat → Prop} {t : Tm} {tp : Option Addr} {tc : Nat} {rp : Option Addr} {rc : Nat} {p : Option Addr} {c : Nat} {w : World} (hT : TM' w C t tp tc rp rc p c) (hn : t.wt ≤ 2097152) :
    Calls Tryd.prog 50 #[tmV t tp tc rp rc p c] w (Tells t.pty w) := by
  have HT := Lib.hid hT
  have hwe := t.wt_eq
  have HN1 := Lib.hid (show nodesS t.ty.args ≤ 2097152 by omega)
  have HN2 := Lib.hid (show nodesS t.res.args ≤ 2097152 by omega)
  have HX0 := Lib.hid (Bx9.new w t tp tc rp rc p c 36)
  have HB0 := Lib.hid (al_below w (.cells (tmC t tp tc rp rc p c) 36))
  clear hT hn hwe
  obtain ⟨g0, _, _, _, g4, g5, g6, g7, _⟩ := HX0.out
  by_cases h6 : t.kind = 6
  · have t1 : (t.kind == 6) = true := by simp [h6]
    have HK := Lib.hid h6
    clear h6
    go_enter Tryd.func50, Tryd.ntmps50
    go_wp2_with fail
    refine (plainI_any (C := C) (t := t.ty) ⟨_, rfl, HT.out.ty.stays (.of_below HB0.out)⟩ HN1.out).mono ?_
    rintro e w1 ⟨r, hr, rfl, hb1⟩
    have HR := Lib.hid hr
    have HB1 := Lib.hid (HB0.out.trans (hb1.mono HB0.out.size))
    clear hr hb1
    go_wp2_with fail
    go_ret
    refine ⟨r, ?_, rfl, HB1.out⟩
    rw [HR.out]
    unfold Tm.pty
    have hk := HK.out
    exact ⟨fun h => ⟨fun _ => h, fun h9 => by omega⟩, fun h => h.1 hk⟩
  · have t1 : (t.kind == 6) = false := by simp [h6]
    have H6 := Lib.hid h6
    clear h6
    by_cases h9 : t.kind = 9
    · have t2 : (t.kind == 9) = true := by simp [h9]
      have HK := Lib.hid h9
      clear h9
      go_enter Tryd.func50, Tryd.ntmps50
      go_wp2_with fail
      refine (plainI_any (C := C) (t := t.ty) ⟨_, rfl, HT.out.ty.stays (.of_below HB0.out)⟩ HN1.out).mono ?_
      rintro e w1 ⟨r, hr, rfl, hb1⟩
      have HR := Lib.hid hr
      have HB1 := Lib.hid (HB0.out.trans (hb1.mono HB0.out.size))
      obtain ⟨f0, _, _, _, f4, f5, f6, f7, _⟩ := HX0.out.keep hb1
      clear hr hb1
      cases r with
      | false =>
        go_wp2_with fail
        go_ret
        refine ⟨false, ?_, rfl, HB1.out⟩
        simp only [Bool.false_eq_true, false_iff]
        intro h
        have := (h.2 HK.out).1
        rw [← HR.out] at this
        cases this
      | true =>
        go_wp2_with fail
        refine (plainI_any (C := C) (t := t.res) ⟨_, rfl, HT.out.res.stays (.of_below HB1.out)⟩ HN2.out).mono ?_
        rintro e w2 ⟨r2, hr2, rfl, hb2⟩
        have HR2 := Lib.hid hr2
        have HB2 := Lib.hid (HB1.out.trans (hb2.mono HB1.out.size))
        clear hr2 hb2
        go_wp2_with fail
        go_ret
        refine ⟨r2, ?_, rfl, HB2.out⟩
        rw [HR2.out]
        exact ⟨fun h => ⟨fun h6 => absurd h6 H6.out, fun _ => ⟨HR.out.symm, h⟩⟩, fun h => (h.2 HK.out).2⟩
    · have t2 : (t.kind == 9) = false := by simp [h9]
      have HK := Lib.hid h9
      clear h9
      go_enter Tryd.func50, Tryd.ntmps50
      go_wp2_with fail
      go_ret
      exact ⟨true, by simp only [true_iff]; exact ⟨fun h => absurd h H6.out, fun h => absurd h HK.out⟩, rfl, HB0.out⟩
#print axioms ptyI_any
end Go.Proofs.YtdfnjfelmfccjaaDoor
/- LvPlI: The contract of the program's IsPlain. -/
namespace Go.Proofs.YtdfnjfelmfccjaaDoor
open Go Go.RowKit Go.Shelf
attribute [local go_sem] Oper.semAt_some

/-- What IsPlain asks of a node. -/
def PlNode (x : Tm) : Prop := x.NodeOk ∧ x.kind < 10 ∧ x.ty.has 4 = false ∧ x.res.has 4 = false
theorem plain_walk (t : Tm) : (t.IsT ∧ t.pln) ↔ ∀ e ∈ walkM t 1, PlNode e.1 := by
  rw [isT_walk t 1, pln_walk t 1]
  exact ⟨fun h e he => ⟨h.1 e he, h.2 e he⟩, fun h => ⟨fun e he => (h e he).1, fun e he => (h e he).2⟩⟩
theorem plNode_iff {x : Tm} (h : x.NodeOk) (hs : ¬ (x.kind = 10 ∨ x.kind = 11 ∨ x.kind = 12 ∨ x.kind = 13)) (hp : x.pty) : PlNode x := by
  refine ⟨h, ?_, (pty_iff h).1 hp⟩
  have h2 := h.2
  unfold Tm.arity arK at h2
  repeat' split at h2
  all_goals omega
theorem not_pl_at {t x : Tm} {d : Nat} {pre : List (Tm × Nat)} (h : pre ++ [(x, d)] <+: walkM t 1) (hx : ¬ PlNode x) : ¬ (t.IsT ∧ t.pln) := fun hh =>
  hx ((plain_walk t).1 hh (x, d) (h.subset (by simp)))

set_option maxRecDepth 100000 in
set_option maxHeartbeats 2000000 in
theorem plnI_any {C : Nat → Prop} {t : Tm} {v : Value} {w : World} (hka : KA w) (h : TM w C t v) (hn : t.wt ≤ 2097152) :
    Calls Tryd.prog 23 #[v] w (Tells (t.IsT ∧ t.pln) w) := by
  have hnt : t.nodes ≤ 2097153 := by have := t.nodes_wt; omega
  have HKA := Lib.hid (fun (w' : World) (hb : Below w.heap.size w w') => hka.below hb)
  have HWT := Lib.hid hn
  clear hka hn
  obtain ⟨tp, tc, rp, rc, p, c, rfl, hT⟩ := h
  have HT := Lib.hid (hT.mono (C' := (· < w.heap.size)) (fun _ _ h => h))
  clear hT
  refine (callsIn_wide (n := 2)).1 ?_
  refine callsIn_of_wp_marks Tryd.func23 rfl trivial ?_ rfl
  simp only [Tryd.ntmps23, List.size_toArray, List.length_cons, List.length_nil, Nat.reduceAdd, Nat.reduceSub, Array.replicate_succ, Array.replicate_zero, List.push_toArray, List.append_toArray, List.nil_append, List.cons_append]
  gi_wp2_with fail
  obtain ⟨w0, hw0, hs0, hb0, hk0, hk1⟩ := box_new2 w (tmC t tp tc rp rc p c) #[.bool false] 36 4
  rw [hw0]
  refine ⟨trivial, ?_⟩
  refine (callsIn_wide.2 (tnM_any (HT.out.stays (.of_below hb0)))).mono ?_
  rintro e wl ⟨Bt, Bp, rfl, hI, hbw, hBt, hBp⟩
  have hsz := hbw.size
  have hbl : Below w.heap.size w wl := hb0.trans (hbw.mono hb0.size)
  have k1 : wl.heap[w.heap.size + 1]? = some (.cells #[.bool false] 4 (0, 0)) := (hbw.block _ (by omega)).trans hk1
  have hbp := (Array.getElem?_eq_some_iff.1 hI.bp).1
  have HSL : TM' wl (fun b => b < w.heap.size ∨ b = Bp) t tp tc rp rc p c := (HT.out.stays (.of_below hbl)).mono (fun z hz _ => Or.inl hz)
  clear hk0 hk1 hb0 hw0
  gi_wp2_with fail
  refine range_law (F := Fence.wide) (n := 2) rfl (by omega) (gf := 95) (lb := #[.pointer (some ⟨Bt, 0, none⟩), .pointer (some ⟨Bp, 0, none⟩)]) rfl trivial (enters_of Tryd.func95 (by kernel_rfl) rfl)
    (nodesM_seq2 hI HSL hnt (Below.refl _ _) (fun b => b = w.heap.size + 1) (fun b h => by omega) (fun b h => by omega) (Or.inr rfl)) (fun _ => rfl) (fun b h => by omega)
    (fun pre W => W.heap[w.heap.size + 1]? = some (.cells #[.bool false] 4 (0, 0)) ∧ (∀ e ∈ pre, PlNode e.1) ∧ Below w.heap.size w W)
    (fun j pre W => j = .ret ∧ W.cell? ⟨w.heap.size + 1, 0, none⟩ = some (.bool false) ∧ ¬ (t.IsT ∧ t.pln) ∧ Below w.heap.size w W)
    (fun pre A B h hb => ⟨(hb.block _ (by omega)).trans h.1, h.2.1, h.2.2.trans (hb.mono (by omega))⟩)
    (fun j pre A B h hb => ⟨h.1, (hb.cell (by show w.heap.size + 1 < _; omega)).trans h.2.1, h.2.2.1, h.2.2.2.trans (hb.mono (by omega))⟩)
    (goodM_keep (fun b h => by omega)) ⟨k1, (fun e he => absurd he (List.not_mem_nil)), hbl⟩
    (fun x a' W => ∃ bx, W.heap[bx]? = some (.cells x.2.1.cells 36 (0, 0)) ∧ a' = { tmps := #[tmV t tp tc rp rc p c, .pointer (some ⟨w.heap.size, 0, none⟩), .pointer (some ⟨w.heap.size + 1, 0, none⟩), .pointer (some ⟨bx, 0, none⟩),
      tmV t tp tc rp rc p c, iterM Bt Bp, x.2.1, .int .i64 (x.2.2 : Nat), undef, undef, undef, undef, undef, undef, undef, undef, undef, undef, undef, undef], defers := [] })
    (fun x a' W l r o h hl => by
      obtain ⟨bx, h2, h3⟩ := h
      exact ⟨bx, (World.putObj_heap_other (fun e => by rw [e, hl] at h2; cases h2)).trans h2, h3⟩) ?assign ?body ?done ?stop
  case assign =>
    rintro l ⟨x, v, d⟩ W K hG hK
    have hG : TM W _ x v := hG
    obtain ⟨tp', tc', rp', rc', p', c', rfl, hG'⟩ := hG
    have HK := Lib.hid hK
    clear hK
    gi_wp2
    exact HK.out _ _ ((Below.refl _ _).alloc (Nat.le_refl _) _) ⟨W.heap.size, blk_new _ _, by simp⟩
  case body =>
    rintro l pre ⟨x, v, d⟩ a' W ⟨hr, hso, hB⟩ hpre hG ⟨bx, hbx, rfl⟩
    have hpre : pre ++ [(x, d)] <+: walkM t 1 := hpre
    have hbx : W.heap[bx]? = some (.cells v.cells 36 (0, 0)) := hbx
    have hG : TM W _ x v := hG
    obtain ⟨tp', tc', rp', rc', p', c', rfl, hG'⟩ := hG
    simp only [Value.cells] at hbx
    obtain ⟨x0, x1, x2, x3, x4, x5, x6, x7, x8⟩ := Bx9.of hbx
    have hxw : x.wt ≤ 2097152 := by
      have h1 := wt_walk t 1 (x, d) (hpre.subset (by simp))
      have h2 := HWT.out
      simp only at h1
      omega
    have HC := Lib.hid (formI_any W (HKA.out W hB) hG' hxw)
    have HCP := Lib.hid (fun (W' : World) (hb : Below W.heap.size W W') => ptyI_any (hG'.stays (.of_below hb)) hxw)
    have HR1 := Lib.hid hr
    have HB1 := Lib.hid hB
    have HSO := Lib.hid hso
    have HP := Lib.hid hpre
    have HBX := Lib.hid (fun (W' : World) (hb : Below W.heap.size W W') => Bx9.of ((hb.block bx (Array.getElem?_eq_some_iff.1 hbx).1).trans hbx))
    have HFIN := Lib.hid (fun (W' : World) (hb : Below W.heap.size W W') => show W'.heap[w.heap.size + 1]? = some (.cells #[.bool false] 4 (0, 0)) from (hb.block _ (Array.getElem?_eq_some_iff.1 hr).1).trans hr)
    clear hso hpre hr hbx hB k1 hG' HSL hbl hbw hI hxw
    gi_wp2_with fail
    refine ⟨trivial, rfl, ?_⟩
    refine (CallsIn.inRound l (callsIn_wide.2 HC.out)).mono ?_
    rintro e W2 ⟨b, hb, rfl, hb2⟩
    have HBB := Lib.hid hb
    have HB2 := Lib.hid hb2
    clear hb hb2 x0 x1 x2 x3 x4 x5 x6 x7 x8
    cases b with
    | false =>
      have hr2 := HFIN.out W2 HB2.out
      have r2 := cell_of_blk hr2 0
      have rz := unfrozen_of_blk hr2 0
      simp only [List.getElem?_toArray, List.getElem?_cons_zero] at r2
      have hcc := World.cell?_setCell_same' W2 ⟨w.heap.size + 1, 0, none⟩ (.bool false) (by rw [r2]; rfl)
      have HCC := Lib.hid hcc
      clear hcc hr2
      gi_wp2_with fail
      refine ⟨trivial, ?_⟩
      gi_wp2_with fail
      refine ⟨trivial, ?_⟩
      gi_wp2_with fail
      exact ⟨Holds.setCell (Cb := fun b => b = w.heap.size + 1) (.of_below HB2.out) ⟨w.heap.size + 1, 0, none⟩ rfl _, rfl, HCC.out, not_pl_at HP.out (fun h => by have := HBB.out.2 h.1; cases this), (HB1.out.trans (HB2.out.mono HB1.out.size)).setCell (p := ⟨w.heap.size + 1, 0, none⟩) (by show w.heap.size ≤ w.heap.size + 1; omega) _⟩
    | true =>
      obtain ⟨x0, x1, x2, x3, x4, x5, x6, x7, x8⟩ := HBX.out W2 HB2.out
      gi_wp2_with fail
      refine ⟨trivial, rfl, ?_⟩
      refine (CallsIn.inRound l (callsIn_wide.2 (stageI_any x tp' tc' rp' rc' p' c' W2))).mono ?_
      rintro e W3 ⟨b3, hb3, rfl, hb23⟩
      have HBB3 := Lib.hid hb3
      have HB3 := Lib.hid (HB2.out.trans (hb23.mono HB2.out.size))
      clear hb3 hb23 x0 x1 x2 x3 x4 x5 x6 x7 x8
      cases b3 with
      | true =>
        have hr2 := HFIN.out W3 HB3.out
        have r2 := cell_of_blk hr2 0
        have rz := unfrozen_of_blk hr2 0
        simp only [List.getElem?_toArray, List.getElem?_cons_zero] at r2
        have hcc := World.cell?_setCell_same' W3 ⟨w.heap.size + 1, 0, none⟩ (.bool false) (by rw [r2]; rfl)
        have HCC := Lib.hid hcc
        clear hcc hr2
        gi_wp2_with fail
        refine ⟨trivial, ?_⟩
        gi_wp2_with fail
        exact ⟨Holds.setCell (Cb := fun b => b = w.heap.size + 1) (.of_below HB3.out) ⟨w.heap.size + 1, 0, none⟩ rfl _, rfl, HCC.out, not_pl_at HP.out (fun h => by have h1 := HBB3.out.1 (by trivial); have h2 : x.kind < 10 := h.2.1; omega), (HB1.out.trans (HB3.out.mono HB1.out.size)).setCell (p := ⟨w.heap.size + 1, 0, none⟩) (by show w.heap.size ≤ w.heap.size + 1; omega) _⟩
      | false =>
        obtain ⟨x0, x1, x2, x3, x4, x5, x6, x7, x8⟩ := HBX.out W3 HB3.out
        gi_wp2_with fail
        refine ⟨trivial, rfl, ?_⟩
        refine (CallsIn.inRound l (callsIn_wide.2 (HCP.out W3 HB3.out))).mono ?_
        rintro e W4 ⟨b4, hb4, rfl, hb34⟩
        have HBB4 := Lib.hid hb4
        have HB4 := Lib.hid (HB3.out.trans (hb34.mono HB3.out.size))
        clear hb4 hb34 x0 x1 x2 x3 x4 x5 x6 x7 x8
        cases b4 with
        | false =>
          have hr2 := HFIN.out W4 HB4.out
          have r2 := cell_of_blk hr2 0
          have rz := unfrozen_of_blk hr2 0
          simp only [List.getElem?_toArray, List.getElem?_cons_zero] at r2
          have hcc := World.cell?_setCell_same' W4 ⟨w.heap.size + 1, 0, none⟩ (.bool false) (by rw [r2]; rfl)
          have HCC := Lib.hid hcc
          clear hcc hr2
          gi_wp2_with fail
          exact ⟨Holds.setCell (Cb := fun b => b = w.heap.size + 1) (.of_below HB4.out) ⟨w.heap.size + 1, 0, none⟩ rfl _, rfl, HCC.out, not_pl_at HP.out (fun h => by have := HBB4.out.2 ((pty_iff h.1).2 h.2.2); cases this), (HB1.out.trans (HB4.out.mono HB1.out.size)).setCell (p := ⟨w.heap.size + 1, 0, none⟩) (by show w.heap.size ≤ w.heap.size + 1; omega) _⟩
        | true =>
          gi_wp2_with fail
          refine ⟨.of_below HB4.out, HFIN.out W4 HB4.out, fun e he => ?_, HB1.out.trans (HB4.out.mono HB1.out.size)⟩
          rcases List.mem_append.1 he with he | he
          · exact HSO.out e he
          · simp only [List.mem_singleton] at he
            subst he
            exact plNode_iff (HBB.out.1 (by trivial)) (fun h => by have := HBB3.out.2 h; cases this) (HBB4.out.1 (by trivial))
  case done =>
    rintro D W hD ⟨hr, hso, hB⟩ hK
    have r0 := cell_of_blk hr 0
    have rz := unfrozen_of_blk hr 0
    simp only [List.getElem?_toArray, List.getElem?_cons_zero] at r0
    have HV := Lib.hid ((plain_walk t).2 hso)
    have HB := Lib.hid hB
    have hK' : (W.setCell ⟨w.heap.size + 1, 0, none⟩ (.bool true)).heap[D]? = some (.deferred (some [])) := (Below.heap_setCell _ _ _ _ (by show D ≠ w.heap.size + 1; omega)).trans hK
    clear hso hB hr hK k1 HSL hbl hbw hI
    gi_wp2_with fail
    refine ⟨by simp, .inl ⟨_, _, rfl, run_takeDeferred hK', ?_⟩⟩
    have hc := (World.cell?_of_block (a := ⟨w.heap.size + 1, 0, none⟩) (w' := (W.setCell ⟨w.heap.size + 1, 0, none⟩ (.bool true)).putObj D (.deferred none)) (World.putObj_heap_other (by show w.heap.size + 1 ≠ D; omega))).trans (World.cell?_setCell_same' W ⟨w.heap.size + 1, 0, none⟩ (.bool true) (by rw [r0]; rfl))
    refine ⟨.bool true, ?_, _, ⟨fun _ => HV.out, fun _ => rfl⟩, rfl, (HB.out.setCell (p := ⟨w.heap.size + 1, 0, none⟩) (by show w.heap.size ≤ w.heap.size + 1; omega) _).trans (below_putObj _ _ _ _ (by omega))⟩
    rw [results_cell1 rfl]
    go_simp
  case stop =>
    rintro D c pre W hD hpre ⟨rfl, hr, hv, hB⟩ hK
    have HB := Lib.hid hB
    have HV := Lib.hid hv
    clear hv hB k1 HSL hbl hbw hI
    gi_wp2_with fail
    refine ⟨by simp, .inl ⟨_, _, rfl, run_takeDeferred hK, ?_⟩⟩
    have hc := (World.cell?_of_block (a := ⟨w.heap.size + 1, 0, none⟩) (w' := W.putObj D (.deferred none)) (World.putObj_heap_other (by show w.heap.size + 1 ≠ D; omega))).trans hr
    refine ⟨.bool false, ?_, _, ⟨fun h => by simp at h, fun h => absurd h HV.out⟩, rfl, HB.out.trans (below_putObj _ _ _ _ (by omega))⟩
    rw [results_cell1 rfl]
    go_simp
#print axioms plnI_any
end Go.Proofs.YtdfnjfelmfccjaaDoor
/- IsPlainLaw: The walk of the law that IsPlain answers as its model does. -/
namespace Go.Proofs.YtdfnjfelmfccjaaDoor
open Go Go.RowKit

set_option maxRecDepth 100000 in
set_option maxHeartbeats 2000000 in
theorem lawIsPlain {C : Nat → Prop} (t : Tm) (v : Value) (w : World) (hka : KA w) (h : TM w C t v) (hf : t.fit) :
    Calls Tryd.prog 6 #[v] w fun e w' => e = .returned (.bool true) ∧ Below w.heap.size w w' := by
  have HKA := Lib.hid (fun (w' : World) (hb : Below w.heap.size w w') => hka.below hb)
  clear hka
  have HT := Lib.hid (fun w' (hb : Below w.heap.size w w') => h.keep hb)
  obtain ⟨tp, tc, rp, rc, p, c, rfl, _⟩ := h
  have HB0 := Lib.hid (al_below w (.cells (tmC t tp tc rp rc p c) 27))
  have HX0 := Lib.hid (Bx9.new w t tp tc rp rc p c 27)
  go_enter Tryd.func6, Tryd.ntmps6
  go_wp2_with fail
  refine (szM_any (HT.out _ HB0.out) hf 1048576 (by omega) (by omega)).mono ?_
  rintro e w1 ⟨r, hr, rfl, hb1⟩
  have HX1 := Lib.hid (HX0.out.keep hb1)
  have HB1 := Lib.hid (HB0.out.trans (hb1.mono HB0.out.size))
  have HR := Lib.hid hr
  clear hr hb1
  by_cases h0 : r < 0
  · go_wp2_with fail
    go_ret
    exact ⟨rfl, HB1.out⟩
  have hn : t.wt ≤ 1048576 := by have := HR.out; unfold SzEnds at this; omega
  have hn2 : t.wt ≤ 2097152 := by omega
  obtain ⟨g0, g1, g2, g3, g4, g5, g6, g7, g8⟩ := HX1.out
  go_wp2_with fail
  refine (toM_any (HT.out _ HB1.out) hn).mono ?_
  rintro e w2 ⟨v1, rfl, ho1, hb2⟩
  have HO1 := Lib.hid ho1
  have HB2 := Lib.hid (HB1.out.trans (hb2.mono HB1.out.size))
  have HX2 := Lib.hid (HX1.out.keep hb2)
  clear ho1 hb2 g0 g1 g2 g3 g4 g5 g6 g7 g8
  go_wp2_with fail
  refine (plnS_at HO1.out.tm hn2).mono ?_
  rintro e w3 ⟨r1, hr1, rfl, hb3⟩
  have HB3 := Lib.hid (HB2.out.trans (hb3.mono HB2.out.size))
  have HX3 := Lib.hid (HX2.out.keep hb3)
  have HR1 := Lib.hid hr1
  clear hb3 hr1
  obtain ⟨g0, g1, g2, g3, g4, g5, g6, g7, g8⟩ := HX3.out
  go_wp2_with fail
  refine (toM_any (HT.out _ HB3.out) hn).mono ?_
  rintro e w4 ⟨v2, rfl, ho2, hb4⟩
  have HY := Lib.hid (fun w' (hb : Below w4.heap.size w4 w') => ho2.tm.keep hb)
  obtain ⟨tp2, tc2, rp2, rc2, p2, c2, rfl, _⟩ := ho2
  have HB4 := Lib.hid (HB3.out.trans (hb4.mono HB3.out.size))
  have HX4 := Lib.hid (HX3.out.keep hb4)
  have HBX := Lib.hid (al_below w4 (.cells (tmC t tp2 tc2 rp2 rc2 p2 c2) 36))
  have HZ4 := Lib.hid (Bx9.new w4 t tp2 tc2 rp2 rc2 p2 c2 36)
  clear hb4 g0 g1 g2 g3 g4 g5 g6 g7 g8
  go_wp2_with fail
  refine (plnI_any (HKA.out _ (HB4.out.trans (HBX.out.mono HB4.out.size))) (HY.out _ HBX.out) hn2).mono ?_
  rintro e w5 ⟨r2, hr2, rfl, hb5⟩
  have HZ5 := Lib.hid (HZ4.out.keep hb5)
  have hbb := below_box hb5
  have HB5 := Lib.hid (HB4.out.trans (hbb.mono HB4.out.size))
  have HX5 := Lib.hid (HX4.out.keep hbb)
  have HXB := Lib.hid hbb
  obtain rfl : r2 = r1 := by first | exact hr2.trans HR1.out.symm | exact Bool.eq_iff_iff.2 (hr2.trans HR1.out.symm)
  clear hb5 hbb hr2 HR1
  obtain ⟨g0, g1, g2, g3, g4, g5, g6, g7, g8⟩ := HX5.out
  obtain ⟨d0, d1, d2, d3, d4, d5, d6, d7, d8⟩ := HZ5.out
  go_wp2_with fail
  go_region_held3 (fun w' => w'.cell? ⟨w.heap.size, 0, none⟩ = some (.int .i64 t.kind) ∧ w'.cell? ⟨w.heap.size, 1, none⟩ = some (.string t.name) ∧ w'.cell? ⟨w.heap.size, 2, none⟩ = some (.string t.other) ∧ w'.cell? ⟨w.heap.size, 3, none⟩ = some (.int .i64 t.n) ∧ w'.cell? ⟨w.heap.size, 4, none⟩ = some (.int .i64 t.ty.kind) ∧ w'.cell? ⟨w.heap.size, 5, none⟩ = some (.slice tp t.ty.args.length tc) ∧ w'.cell? ⟨w.heap.size, 6, none⟩ = some (.int .i64 t.res.kind) ∧ w'.cell? ⟨w.heap.size, 7, none⟩ = some (.slice rp t.res.args.length rc) ∧ w'.cell? ⟨w.heap.size, 8, none⟩ = some (.slice p t.args.length c) ∧ w'.cell? ⟨w4.heap.size, 0, none⟩ = some (.int .i64 t.kind) ∧ w'.cell? ⟨w4.heap.size, 1, none⟩ = some (.string t.name) ∧ w'.cell? ⟨w4.heap.size, 2, none⟩ = some (.string t.other) ∧ w'.cell? ⟨w4.heap.size, 3, none⟩ = some (.int .i64 t.n) ∧ w'.cell? ⟨w4.heap.size, 4, none⟩ = some (.int .i64 t.ty.kind) ∧ w'.cell? ⟨w4.heap.size, 5, none⟩ = some (.slice tp2 t.ty.args.length tc2) ∧ w'.cell? ⟨w4.heap.size, 6, none⟩ = some (.int .i64 t.res.kind) ∧ w'.cell? ⟨w4.heap.size, 7, none⟩ = some (.slice rp2 t.res.args.length rc2) ∧ w'.cell? ⟨w4.heap.size, 8, none⟩ = some (.slice p2 t.args.length c2) ∧ Below w5.heap.size w5 w')
    (first
      | (go_keep; done)
      | exact ⟨g0, g1, g2, g3, g4, g5, g6, g7, g8, d0, d1, d2, d3, d4, d5, d6, d7, d8, (Below.refl _ _).drew⟩
      | exact keep18 hb7 (by assumption)
      | exact keep18 hb6 (by assumption))
    (first
      | (go_at_call 11; refine (toM_any (HT.out _ (HB5.out.trans (((Below.refl _ _).drew).mono HB5.out.size))) hn).mono ?_; rintro e w6 ⟨v3, rfl, ho3, hb6⟩)
      | (go_at_call 14; refine (eqM_any (HY.out _ (HXB.out.trans (((Below.refl _ _).drew.trans hb6).mono HXB.out.size))) ho3.tm).mono ?_; rintro e w7 ⟨b7, he7, rfl, hb7⟩))
  rename_i hH
  have HBL := Lib.hid (HB5.out.trans (hH.2.2.2.2.2.2.2.2.2.2.2.2.2.2.2.2.2.2.mono HB5.out.size))
  obtain rfl : b7 = true := by simpa using he7
  clear hH
  go_wp2_with fail
  go_ret
  exact ⟨rfl, HBL.out⟩
end Go.Proofs.YtdfnjfelmfccjaaDoor
/- Frame: THE FRAME OF A LAW, of no program: where a call returns true and leaves what was there as it was, the row's end is met: each argument reads as it read. -/
namespace Go.Proofs.YtdfnjfelmfccjaaDoor
open Go Go.ChangeShapes Go.WideShapes Go.ChangeAt Go.RowKit

section
variable {H : Type} {enc : TypeId × Value → H} {P : Program}

/-- Every argument reads behind the call as it read before. -/
theorem trodAll_below (hl : laidOutB P = true) {W W' : World} (hb : Below W.heap.size W W') : ∀ (ts : List TypeId) (vs : List Value) (ds : List (DataW H)) (ps : List MemPlace),
    (∀ t ∈ ts, P.readableRec t = true ∧ t < P.types.size) → DataW.TrodAll enc P W 0 (fun _ => true) true ts vs ds ps → (∀ x ∈ ps, x.block < W.heap.size) →
    DataW.TrodAll enc P W' 0 (fun b => decide (b < W.heap.size)) true ts vs ds ps
  | [], [], [], _, _, h, _ => h
  | t :: ts, v :: vs, d :: ds, ps, hr, h, hlt => by
    obtain ⟨p, q, h1, h2, rfl⟩ := h
    have ht := hr t (List.mem_cons_self ..)
    exact ⟨p, q, Below.trod hl ht.1 ht.2 h1 hb (fun x hx => hlt x (List.mem_append_left _ hx)), trodAll_below hl hb ts vs ds q (fun u hu => hr u (List.mem_cons_of_mem _ hu)) h2 (fun x hx => hlt x (List.mem_append_right _ hx)), rfl⟩
  | [], _ :: _, _, _, _, h, _ => h.elim
  | [], [], _ :: _, _, _, h, _ => h.elim
  | _ :: _, [], _, _, _, h, _ => h.elim
  | _ :: _, _ :: _, [], _, _, h, _ => h.elim

/-- The end of a law's row. -/
theorem law_post {f : Func} {s : ChangeSpec} {W W' : World} {args : Array Value} {ds gs : List (DataW H)} {before : List MemPlace} {tb : TypeId} (hl : laidOutB P = true)
    (hts : (f.params.toList.all fun t => P.readableRec t && decide (t < P.types.size)) = true) (hbool : P.underlying tb = some .bool) (hres : f.resultTypes = #[tb]) (hvars : s.vars = [])
    (hW : DataW.Whole enc P f.params.toList s.vars false W args.toList ds gs before) (hr : (s.fn H ds).results = [.lit (.bool true)]) (ha : (s.fn H ds).args = ds) (hv : (s.fn H ds).vars = [])
    (hb : Below W.heap.size W W') : s.post enc P f false true false false W args (.bool true) W' := by
  have hW0 := hW
  obtain ⟨p, q, hA, hV, rfl, hfz, _⟩ := hW
  rw [hvars] at hV
  obtain ⟨rfl, rfl⟩ := trodVars_none hV
  have hlt : ∀ x ∈ p, x.block < W.heap.size := fun x hx => hW0.lt x (List.mem_append_left _ hx)
  refine ⟨ds, [], p ++ [], [], p, [], hW0, ?_, ?_, ?_, hb.frame _, fun h => by cases h⟩
  · rw [List.append_nil, hr, hres]
    exact trodAll_mk1 (shut_bool hbool _)
  · rw [List.append_nil, ha]
    refine trodAll_below hl hb _ _ _ _ (fun t ht => ?_) hA hlt
    have := List.all_eq_true.1 hts t ht
    simp only [Bool.and_eq_true, decide_eq_true_eq] at this
    exact this
  · rw [List.append_nil, hv, hvars]
    rfl
end
end Go.Proofs.YtdfnjfelmfccjaaDoor
/- FrameV: The end of a law's row whose function names variables: they read behind the call as before. Of no program. -/
namespace Go.Proofs.YtdfnjfelmfccjaaDoor
open Go Go.ChangeShapes Go.WideShapes Go.ChangeAt Go.RowKit

section
variable {H : Type} {enc : TypeId × Value → H} {P : Program}

theorem law_postV {f : Func} {s : ChangeSpec} {W W' : World} {args : Array Value} {ds gs : List (DataW H)} {before : List MemPlace} {tb : TypeId} (hl : laidOutB P = true)
    (hts : (f.params.toList.all fun t => P.readableRec t && decide (t < P.types.size)) = true) (hbool : P.underlying tb = some .bool) (hres : f.resultTypes = #[tb]) (hvars : varsRowed P s.vars = true)
    (hW : DataW.Whole enc P f.params.toList s.vars false W args.toList ds gs before) (hr : (s.fn H (ds ++ gs)).results = [.lit (.bool true)]) (ha : (s.fn H (ds ++ gs)).args = ds) (hv : (s.fn H (ds ++ gs)).vars = gs)
    (hb : Below W.heap.size W W') : s.post enc P f false true false false W args (.bool true) W' := by
  have hW0 := hW
  obtain ⟨p, q, hA, hV, rfl, hfz, _⟩ := hW
  have hlt : ∀ x ∈ p, x.block < W.heap.size := fun x hx => hW0.lt x (List.mem_append_left _ hx)
  refine ⟨ds, gs, p ++ q, [], p, q, hW0, ?_, ?_, ?_, hb.frame _, fun h => by cases h⟩
  · rw [hr, hres]
    exact trodAll_mk1 (shut_bool hbool _)
  · rw [ha]
    refine trodAll_below hl hb _ _ _ _ (fun t ht => ?_) hA hlt
    have := List.all_eq_true.1 hts t ht
    simp only [Bool.and_eq_true, decide_eq_true_eq] at this
    exact this
  · rw [hv]
    exact Below.trodVars hl hb hvars hV
end
end Go.Proofs.YtdfnjfelmfccjaaDoor
/- RangeD: A range over an iterator where body and iterator keep memory that they make as they go: the body's blocks are told at each moment, the iterator keeps off them, the body keeps off all else. Of no program. -/
namespace Go.Proofs.YtdfnjfelmfccjaaDoor
open Go Go.RowKit

/-- Nothing below base turns, and none of the blocks B. -/
def Keep (base : Nat) (B : Nat → Prop) (w w' : World) : Prop := Below base w w' ∧ ∀ b, B b → b < w.heap.size → w'.heap[b]? = w.heap[b]?
theorem Keep.refl (base : Nat) (B : Nat → Prop) (w : World) : Keep base B w w := ⟨Below.refl _ _, fun _ _ _ => rfl⟩
theorem Keep.trans {base : Nat} {B : Nat → Prop} {a b c : World} (h : Keep base B a b) (k : Keep base B b c) : Keep base B a c :=
  ⟨h.1.trans k.1, fun x hx hl => (k.2 x hx (Nat.lt_of_lt_of_le hl h.1.size)).trans (h.2 x hx hl)⟩
theorem Keep.of_below {base : Nat} {B : Nat → Prop} {w w' : World} (hb : base ≤ w.heap.size) (h : Below w.heap.size w w') : Keep base B w w' := ⟨h.mono hb, fun b _ hl => h.block b hl⟩
theorem Keep.mono {base base' : Nat} {B B' : Nat → Prop} {w w' : World} (h : Keep base B w w') (hb : base' ≤ base) (hB : ∀ b, B' b → B b) : Keep base' B' w w' := ⟨h.1.mono hb, fun b hb hl => h.2 b (hB b hb) hl⟩

/-- What the body's round may make of its blocks: those that it had, and new ones. -/
def Grew (B B' : Nat → Prop) (n m : Nat) : Prop := ∀ b, B' b → (B b ∨ n ≤ b) ∧ b < m
theorem Grew.refl {B : Nat → Prop} {n m : Nat} (h : ∀ b, B b → b < m) : Grew B B n m := fun b hb => ⟨Or.inl hb, h b hb⟩
theorem Grew.trans {B B' B'' : Nat → Prop} {n m n' m' : Nat} (h : Grew B B' n m) (k : Grew B' B'' n' m') (hn : n ≤ n') : Grew B B'' n m' := fun b hb => by
  obtain ⟨h1, h2⟩ := k b hb
  rcases h1 with h1 | h1
  · exact ⟨(h b h1).1, h2⟩
  · exact ⟨Or.inr (Nat.le_trans hn h1), h2⟩
theorem Grew.mono {B B' : Nat → Prop} {n n' m m' : Nat} (h : Grew B B' n m) (hn : n' ≤ n) (hm : m ≤ m') : Grew B B' n' m' := fun b hb => by
  obtain ⟨h1, h2⟩ := h b hb
  exact ⟨h1.imp id (fun h => Nat.le_trans hn h), Nat.lt_of_lt_of_le h2 hm⟩

/-- What an iterator owes: each of 'all' comes in order, until the body says no (the loop's own record counts among the blocks that its body may turn). C: what the iterator reads; the body's blocks B are none of it. N: what else the body reads: blocks (Y) of things that it was given; the iterator keeps off them, too. -/
def SeqD {α β : Type} (F : Fence) (n : Nat) (P : Program) (g : Nat) (lb : Array Value) (encs : α → Array Value) (key : α → β) (Good : α → (Nat → Prop) → World → Prop) (C : Nat → Prop) (all : List β) (w : World) : Prop :=
  ∀ (l : Nat) (J Jx : List β → (Nat → Prop) → (Nat → Prop) → World → Prop) (B0 : Nat → Prop) (W : World), Below w.heap.size w W → (∀ b, C b → ¬ B0 b) → (∀ b, B0 b → b < W.heap.size) →
    (∀ pre B N A A', J pre B N A → Keep W.heap.size (fun z => B z ∨ N z) A A' → J pre B N A') →
    (∀ pre B N A A', Jx pre B N A → Keep W.heap.size (fun z => B z ∨ N z) A A' → Jx pre B N A') →
    (∀ pre x Y B N W1, J pre B N W1 → pre ++ [key x] <+: all → Good x Y W1 → (∀ z, Y z → ¬ B z) → YieldAt F (n - 1) P l (encs x) W1 fun e W' =>
      ∃ B' N', Grew B B' W1.heap.size W'.heap.size ∧ (∀ z, N' z → N z ∨ Y z) ∧ ((e = .returned (.bool true) ∧ J (pre ++ [key x]) B' N' W' ∧ Holds B W1 W') ∨ (e = .returned (.bool false) ∧ Jx (pre ++ [key x]) B' N' W' ∧ Holds B W1 W'))) →
    J [] B0 (fun _ => False) W →
    CallsIn F n P g (#[.func (.yield l) #[] #[]] ++ lb) W fun e W' => (∃ v, e = .returned v) ∧ ((∃ B' N', J all B' N' W') ∨ ∃ pre B' N', pre <+: all ∧ Jx pre B' N' W')

/-- How a round's body may be left. -/
def postD {β : Type} (B N Y : Nat → Prop) (I : List β → (Nat → Prop) → (Nat → Prop) → World → Prop) (Ix : Code → List β → (Nat → Prop) → (Nat → Prop) → World → Prop) (xs : List β) (W : World) : Exit → Act → World → Prop
  | .normal, _, W' => ∃ B' N', Grew B B' W.heap.size W'.heap.size ∧ (∀ z, N' z → N z ∨ Y z) ∧ Holds B W W' ∧ I xs B' N' W'
  | .ret, _, W' => ∃ B' N', Grew B B' W.heap.size W'.heap.size ∧ (∀ z, N' z → N z ∨ Y z) ∧ Holds B W W' ∧ Ix .ret xs B' N' W'
  | .exit id, _, W' => ∃ B' N', Grew B B' W.heap.size W'.heap.size ∧ (∀ z, N' z → N z ∨ Y z) ∧ Holds B W W' ∧ Ix (.exit id) xs B' N' W'
  | .goto t, _, W' => ∃ B' N', Grew B B' W.heap.size W'.heap.size ∧ (∀ z, N' z → N z ∨ Y z) ∧ Holds B W W' ∧ Ix (.goto t) xs B' N' W'
  | .panic _, _, _ => False
  | .outgrown, _, _ => False

variable {F : Fence} {n : Nat} {P : Program}

/-- THE LOOP OVER SUCH AN ITERATOR. -/
theorem rangeD_law {α β : Type} {g : Operand} {ps : Array Tmp} {assign body : Code} {Q : Exit → Act → World → Prop} {a : Act} {w : World}
    (hro : F.round = none) (h1 : 1 ≤ n) {gf : Nat} {lb : Array Value} (hg : a.eval g = .func (.func gf) #[] lb) (hFg : F.fn gf) (eg : ∀ args w, (callFunc gf args).run P w = .ok (.enter gf args) w)
    {encs : α → Array Value} {key : α → β} {Good : α → (Nat → Prop) → World → Prop} {C B0 : Nat → Prop} {all : List β} (hseq : SeqD F (n - 1) P gf lb encs key Good C all w) (hps : ∀ x, (encs x).size = ps.size) (hC : ∀ b, C b → ¬ B0 b) (hCl : ∀ b, C b → b < w.heap.size) (hB0 : ∀ b, B0 b → b < w.heap.size)
    (I : List β → (Nat → Prop) → (Nat → Prop) → World → Prop) (Ix : Code → List β → (Nat → Prop) → (Nat → Prop) → World → Prop) (hI : ∀ pre B N A A', I pre B N A → Keep w.heap.size (fun z => B z ∨ N z) A A' → I pre B N A') (hIx : ∀ c pre B N A A', Ix c pre B N A → Keep w.heap.size (fun z => B z ∨ N z) A A' → Ix c pre B N A')
    (hG : ∀ x Y A A' l r, w.heap.size ≤ l → Good x Y A → A.heap[l]? = some (.loop r) → Holds (fun b => b = l) A A' → Good x Y A') (hIB : ∀ pre B N A, I pre B N A → ∀ z, B z → z < A.heap.size) (hGY : ∀ x Y A z, Good x Y A → Y z → ∃ cs T fr, A.heap[z]? = some (.cells cs T fr)) (h0 : I [] B0 (fun _ => False) w)
    (Ax : α → Nat → Act → World → Prop) (hAx : ∀ x s a' W l r o, Ax x s a' W → W.heap[l]? = some (.loop r) → Ax x s a' (W.putObj l o))
    (hassign : ∀ (l : Nat) (x : α) (Y : Nat → Prop) (W : World) (K : Act → World → Prop), Good x Y W → (∀ a' W', Below W.heap.size W W' → Ax x W.heap.size a' W' → K a' W') →
      assign.wpIn (F.inRound l) (n - 1 - 1) P (Exit.then K (fun _ _ _ => False)) { tmps := (ps.zip (encs x)).foldl (fun t (p, v) => t.setIfInBounds p v) a.tmps, defers := [] } W)
    (hbody : ∀ (l : Nat) (pre : List β) (x : α) (s : Nat) (a' : Act) (Y B N : Nat → Prop) (W : World), I pre B N W → pre ++ [key x] <+: all → Good x Y W → (∀ z, Y z → ¬ B z) → (∀ z, B z → z < s) → Ax x s a' W → (∃ r, W.heap[l]? = some (.loop r)) → ¬ B l → body.wpIn (F.inRound l) (n - 1 - 1) P (postD B N Y I Ix (pre ++ [key x]) W) a' W)
    (hdone : ∀ (D : Nat) (B N : Nat → Prop) (W : World), w.heap.size ≤ D → (∀ b, B b ∨ N b → b ≠ D) → I all B N W → W.heap[D]? = some (.deferred (some [])) → Q .normal { a with defers := { target := .collected D, args := #[] } :: a.defers } W)
    (hstop : ∀ (D : Nat) (c : Code) (pre : List β) (B N : Nat → Prop) (W : World), w.heap.size ≤ D → (∀ b, B b ∨ N b → b ≠ D) → pre <+: all → Ix c pre B N W → W.heap[D]? = some (.deferred (some [])) → c.wpIn F n P Q { a with defers := { target := .collected D, args := #[] } :: a.defers } W) :
    (Code.rangeFunc g ps assign body).wpIn F n P Q a w := by
  refine wpIn_rangeFunc (fun fn hfn => ?_)
  rw [hro]
  -- the record of the loop, in its three states
  let rec_ : LoopState → Option Code → Loop := fun st pe => { state := st, pending := pe, fn, tmps := a.tmps, params := ps, assign, body, defers := w.heap.size }
  let w1 := (w.alloc (.deferred (some []))).alloc (.loop (rec_ .ready none))
  have hs1 : w1.heap.size = w.heap.size + 2 := by simp [w1]
  have hb1 : Below w.heap.size w w1 := ((Below.refl _ w).alloc (Nat.le_refl _) _).alloc (by simp) _
  have hl1 : w1.heap[w.heap.size + 1]? = some (.loop (rec_ .ready none)) := by
    have := World.alloc_heap_new (w.alloc (.deferred (some []))) (.loop (rec_ .ready none))
    rwa [World.size_alloc] at this
  have hd1 : w1.heap[w.heap.size]? = some (.deferred (some [])) := (Below.heap_alloc _ _ _ (by simp)).trans (World.alloc_heap_new w _)
  refine ⟨w.heap.size + 1, [{ target := .collected w.heap.size, args := #[] }], w1, { target := .fn (.func gf) lb, args := #[.func (.yield (w.heap.size + 1)) #[] #[]] }, w1, gf,
    #[.func (.yield (w.heap.size + 1)) #[] #[]] ++ lb, w1, run_enterLoop_outer _ _ _ _ _, by simp only [resolve, hg]; simp [go_sem], fun f' hf' => by simp [Target.leads] at hf'; subst hf'; exact hFg, by simp [invoke, go_sem, eg], fun _ => h1, ?_⟩
  have still : ∀ {B : Nat → Prop} {A A' : World} {k : Nat} {o : Obj}, Keep w1.heap.size B A A' → k < w1.heap.size → A.heap[k]? = some o → A'.heap[k]? = some o := fun hb hk h => (hb.1.block _ hk).trans h
  refine (hseq (w.heap.size + 1)
    (fun pre B N W => ∃ B1 : Nat → Prop, (∀ z, B z ↔ B1 z ∨ z = w.heap.size + 1) ∧ I pre B1 N W ∧ W.heap[w.heap.size + 1]? = some (.loop (rec_ .ready none)) ∧ W.heap[w.heap.size]? = some (.deferred (some [])) ∧ ∀ b, B1 b ∨ N b → b < w.heap.size ∨ w.heap.size + 2 ≤ b)
    (fun pre B N W => ∃ (B1 : Nat → Prop) (c : Code), (∀ z, B z ↔ B1 z ∨ z = w.heap.size + 1) ∧ Ix c pre B1 N W ∧ W.heap[w.heap.size + 1]? = some (.loop (rec_ .done (some c))) ∧ W.heap[w.heap.size]? = some (.deferred (some [])) ∧ ∀ b, B1 b ∨ N b → b < w.heap.size ∨ w.heap.size + 2 ≤ b)
    (fun z => B0 z ∨ z = w.heap.size + 1) w1 hb1 (fun b hb h => h.elim (hC b hb) (fun e => by have := hCl b hb; omega)) (fun b hb => hb.elim (fun hb => by have := hB0 b hb; omega) (fun e => by omega)) (fun pre B N A A' h hb => by
      obtain ⟨B1, h0, h1, h2, h3, h4⟩ := h
      exact ⟨B1, h0, hI pre B1 N A A' h1 (hb.mono (by omega) (fun z h => h.imp (fun h => (h0 z).2 (Or.inl h)) id)), still hb (by omega) h2, still hb (by omega) h3, h4⟩) (fun pre B N A A' h hb => by
      obtain ⟨B1, c, h0, h1, h2, h3, h4⟩ := h
      exact ⟨B1, c, h0, hIx c pre B1 N A A' h1 (hb.mono (by omega) (fun z h => h.imp (fun h => (h0 z).2 (Or.inl h)) id)), still hb (by omega) h2, still hb (by omega) h3, h4⟩) ?_ ⟨B0, fun _ => Iff.rfl, hI _ _ _ _ _ h0 (.of_below (Nat.le_refl _) hb1), hl1, hd1, fun b hb => Or.inl (hb.elim (hB0 b) False.elim)⟩).mono ?_
  · -- one round
    rintro pre x Y BL N W ⟨B, hBe, hi, hl, hd, hBl⟩ hpre hgood hYB0
    have hYB : ∀ z, Y z → ¬ B z := fun z hz hb => hYB0 z hz ((hBe z).2 (Or.inl hb))
    have hy := run_yield (P := P) (args := encs x) hl (hps x)
    refine ⟨fn, _, assign, body, hy, roundIn_of_wpIn hfn (hassign _ x Y W _ hgood (fun a' Wa hba hax => ?_))⟩
    have hlt : w.heap.size + 1 < W.heap.size := (Array.getElem?_eq_some_iff.1 hl).1
    have hla : Wa.heap[w.heap.size + 1]? = some (.loop (rec_ .ready none)) := (hba.block _ hlt).trans hl
    have hda : Wa.heap[w.heap.size]? = some (.deferred (some [])) := (hba.block _ (by omega)).trans hd
    refine ⟨_, run_beginRound hla rfl, ?_⟩
    have hlta : w.heap.size + 1 < Wa.heap.size := (Array.getElem?_eq_some_iff.1 hla).1
    let busy : Loop := { rec_ .ready none with state := .busy }
    let Wb := Wa.putObj (w.heap.size + 1) (.loop busy)
    have hbb : Below w.heap.size Wa Wb := below_putObj _ _ _ _ (by omega)
    have hlb : Wb.heap[w.heap.size + 1]? = some (.loop busy) := World.putObj_heap_same hlta
    have hdb : Wb.heap[w.heap.size]? = some (.deferred (some [])) := (World.putObj_heap_other (by omega)).trans hda
    have hszb : Wb.heap.size = Wa.heap.size := by simp [Wb]
    have hwa := hba.size
    have hkw : Keep w.heap.size (fun z => B z ∨ N z) W Wb := ⟨(hba.mono (Nat.le_of_lt (by omega : w.heap.size < W.heap.size))).trans hbb, fun b hb hl' => by
      rw [World.putObj_heap_other (by have := hBl b hb; omega)]
      exact hba.block b hl'⟩
    have hol : Holds (fun b => b = w.heap.size + 1) W Wb := ⟨by omega, fun b hb hc => by rw [World.putObj_heap_other hc]; exact hba.block b hb⟩
    have hnl : ¬ B (w.heap.size + 1) := fun h => by have := hBl _ (Or.inl h); omega
    have hnd : ¬ B w.heap.size := fun h => by have := hBl _ (Or.inl h); omega
    refine wpIn_mono (hbody _ pre x W.heap.size a' Y B N Wb (hI _ _ _ _ _ hi hkw) hpre (hG _ _ _ _ _ _ (Nat.le_succ _) hgood hl hol) hYB (hIB _ _ _ _ hi) (hAx _ _ _ _ _ _ _ hax hla) ⟨_, hlb⟩ hnl) ?_
    have fin : ∀ (jump : Option Code) (W3 : World), Holds B Wb W3 →
        (Instr.endRound (w.heap.size + 1) jump).run P W3 = .ok (.bool jump.isNone) (W3.putObj (w.heap.size + 1) (.loop (rec_ (if jump.isNone then .ready else .done) jump))) ∧
        Below w.heap.size W3 (W3.putObj (w.heap.size + 1) (.loop (rec_ (if jump.isNone then .ready else .done) jump))) ∧
        (W3.putObj (w.heap.size + 1) (.loop (rec_ (if jump.isNone then .ready else .done) jump))).heap[w.heap.size + 1]? = some (.loop (rec_ (if jump.isNone then .ready else .done) jump)) ∧
        (W3.putObj (w.heap.size + 1) (.loop (rec_ (if jump.isNone then .ready else .done) jump))).heap[w.heap.size]? = some (.deferred (some [])) := fun jump W3 hk => by
      have hwb : Wb.heap.size = Wa.heap.size := by simp [Wb]
      have h3 : W3.heap[w.heap.size + 1]? = some (.loop busy) := (hk.2 _ (by omega) hnl).trans hlb
      have hd3 : W3.heap[w.heap.size]? = some (.deferred (some [])) := (hk.2 _ (by omega) hnd).trans hdb
      exact ⟨run_endRound (P := P) jump h3, below_putObj _ _ _ _ (by omega), World.putObj_heap_same (Array.getElem?_eq_some_iff.1 h3).1, (World.putObj_heap_other (by omega)).trans hd3⟩
    have bl' : ∀ (B' N' : Nat → Prop) (m : Nat), Grew B B' Wb.heap.size m → (∀ z, N' z → N z ∨ Y z) → ∀ b, B' b ∨ N' b → b < w.heap.size ∨ w.heap.size + 2 ≤ b := fun B' N' m hg hN b hb => by
      rcases hb with hb | hb
      · rcases (hg b hb).1 with h1 | h1
        · exact hBl b (Or.inl h1)
        · exact Or.inr (by omega)
      · rcases hN b hb with h1 | h1
        · exact hBl b (Or.inr h1)
        · obtain ⟨cs, T, fr, hc⟩ := hGY x Y W b hgood h1
          by_cases e1 : b = w.heap.size
          · subst e1; rw [hd] at hc; cases hc
          · by_cases e2 : b = w.heap.size + 1
            · subst e2; rw [hl] at hc; cases hc
            · omega
    have gw : ∀ (B' : Nat → Prop) (W3 : World) (o : Obj), Holds B Wb W3 → Grew B B' Wb.heap.size W3.heap.size → Grew BL (fun z => B' z ∨ z = w.heap.size + 1) W.heap.size (W3.putObj (w.heap.size + 1) o).heap.size := fun B' W3 o hk hg b hb => by
      have hk1 := hk.1
      rcases hb with hb | rfl
      · obtain ⟨h1, h2⟩ := hg b hb
        exact ⟨h1.imp (fun h => (hBe b).2 (Or.inl h)) (fun h => by omega), by simpa using h2⟩
      · exact ⟨Or.inl ((hBe _).2 (Or.inr rfl)), by simp; omega⟩
    have hold : ∀ (W3 : World) (o : Obj), Holds B Wb W3 → Holds BL W (W3.putObj (w.heap.size + 1) o) := fun W3 o hk => by
      have hk1 := hk.1
      refine ⟨by simp; omega, fun b hb hc => ?_⟩
      have e : b ≠ w.heap.size + 1 := fun e => hc ((hBe b).2 (Or.inr e))
      rw [World.putObj_heap_other e, hk.2 b (by omega) (fun h => hc ((hBe b).2 (Or.inl h))), World.putObj_heap_other e, hba.block b hb]
    rintro e a3 W3 hp
    cases e with
    | normal =>
      obtain ⟨B', N', hgr, hN, hk, hi3⟩ := hp
      obtain ⟨hr, hb3, hl3, hd3⟩ := fin none W3 hk
      have hBl' := bl' B' N' _ hgr hN
      exact ⟨_, _, hr, fun z => B' z ∨ z = w.heap.size + 1, N', gw B' _ _ hk hgr, hN, .inl ⟨rfl, ⟨B', fun _ => Iff.rfl, hI _ _ _ _ _ hi3 ⟨hb3, fun b hb _ => World.putObj_heap_other (by have := hBl' b hb; omega)⟩, hl3, hd3, hBl'⟩, hold W3 _ hk⟩⟩
    | ret =>
      obtain ⟨B', N', hgr, hN, hk, hi3⟩ := hp
      obtain ⟨hr, hb3, hl3, hd3⟩ := fin (some .ret) W3 hk
      have hBl' := bl' B' N' _ hgr hN
      exact ⟨_, _, hr, fun z => B' z ∨ z = w.heap.size + 1, N', gw B' _ _ hk hgr, hN, .inr ⟨rfl, ⟨B', _, fun _ => Iff.rfl, hIx _ _ _ _ _ _ hi3 ⟨hb3, fun b hb _ => World.putObj_heap_other (by have := hBl' b hb; omega)⟩, hl3, hd3, hBl'⟩, hold W3 _ hk⟩⟩
    | exit id =>
      obtain ⟨B', N', hgr, hN, hk, hi3⟩ := hp
      obtain ⟨hr, hb3, hl3, hd3⟩ := fin (some (.exit id)) W3 hk
      have hBl' := bl' B' N' _ hgr hN
      exact ⟨_, _, hr, fun z => B' z ∨ z = w.heap.size + 1, N', gw B' _ _ hk hgr, hN, .inr ⟨rfl, ⟨B', _, fun _ => Iff.rfl, hIx _ _ _ _ _ _ hi3 ⟨hb3, fun b hb _ => World.putObj_heap_other (by have := hBl' b hb; omega)⟩, hl3, hd3, hBl'⟩, hold W3 _ hk⟩⟩
    | goto t =>
      obtain ⟨B', N', hgr, hN, hk, hi3⟩ := hp
      obtain ⟨hr, hb3, hl3, hd3⟩ := fin (some (.goto t)) W3 hk
      have hBl' := bl' B' N' _ hgr hN
      exact ⟨_, _, hr, fun z => B' z ∨ z = w.heap.size + 1, N', gw B' _ _ hk hgr, hN, .inr ⟨rfl, ⟨B', _, fun _ => Iff.rfl, hIx _ _ _ _ _ _ hi3 ⟨hb3, fun b hb _ => World.putObj_heap_other (by have := hBl' b hb; omega)⟩, hl3, hd3, hBl'⟩, hold W3 _ hk⟩⟩
    | panic ch => exact hp.elim
    | outgrown => exact hp.elim
  · -- the iterator has returned
    rintro e W2 ⟨⟨v, rfl⟩, (⟨BL, N', B', hBe, hi, hl, hd, hBl⟩ | ⟨pre, BL, N', hpre, B', c, hBe, hi, hl, hd, hBl⟩)⟩
    · exact ⟨none, _, run_endLoop (P := P) hl (by simp [rec_]), hdone _ B' N' _ (Nat.le_refl _) (fun b hb e => by have := hBl b hb; omega) (hI _ _ _ _ _ hi ⟨below_putObj _ _ _ _ (by omega), fun b hb _ => World.putObj_heap_other (by have := hBl b hb; omega)⟩) ((World.putObj_heap_other (by omega)).trans hd)⟩
    · exact ⟨some c, _, run_endLoop (P := P) hl (by simp [rec_]), hstop _ c pre B' N' _ (Nat.le_refl _) (fun b hb e => by have := hBl b hb; omega) hpre (hIx _ _ _ _ _ _ hi ⟨below_putObj _ _ _ _ (by omega), fun b hb _ => World.putObj_heap_other (by have := hBl b hb; omega)⟩) ((World.putObj_heap_other (by omega)).trans hd)⟩
end Go.Proofs.YtdfnjfelmfccjaaDoor
