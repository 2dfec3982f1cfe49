/-
  Several texts of the proof in one (each says below what it holds): FormI LvK LevelsOkLaw Frame FrameV LvG IsGeneratedLaw LvH HighestLevelLaw Strs Copy AppS Index UniteSpec.
-/
import Derived.Test.YtfeijijeohfpgaaDoorLq6
import Derived.Test.YtfeijijeohfpgaaDoorLq3
import Derived.Test.YtfeijijeohfpgaaDoorLq4
import Derived.Test.YtfeijijeohfpgaaDoorLq2
import Derived.Test.YtfeijijeohfpgaaDoorLq1
import Derived.Deep.CutRange
import Derived.Deep.CutBlock
import Derived.Deep.RegionHeld3
import Derived.ProofKit
import Derived.OpenShut
import Derived.Carry
import Derived.Below
import Derived.OpenVars
import Derived.ChangeVars
import Derived.OwnWalk
import Derived.Test.YtfeijijeohfpgaaDoorProg
import Derived.WalkSmall
import Derived.Laws.OwnMore
import Derived.Laws.AppendOwn
set_option linter.unusedVariables false
set_option linter.unusedSimpArgs false
namespace Go.Proofs.YtfeijijeohfpgaaDoor
open Go Go.RowKit

theorem Tm.NodeOk.ar {t : Tm} (h : t.NodeOk) : t.arOk := ⟨h.2, fun k => by
  have h1 := h.2
  have h2 := (names_4 k).1 h.1.names
  rw [Tm.arity, k] at h1
  simp only [arK] at h1
  have h3 : (arK 4 (opAr t.name.toList)) = opAr t.name.toList := by simp [arK]
  omega⟩
theorem node_fields {t : Tm} (ha : t.arOk) : t.NodeOk ↔ t.FieldsOk := ⟨fun h => h.1, fun h => ⟨h, ha.1⟩⟩
theorem zero_valid {t : Ty} (h : zeroT t) : ¬ t.valid = true := fun e => by
  have h1 := ((valid_walk t).1 e).1 (t, 1) (by rw [walkT_eq]; simp)
  have h2 := (okK_kind t).1 h1.1
  have h3 := h.1
  omega
theorem fo_plain {t : Tm} (h6 : ¬ t.kind = 6) (h9 : ¬ t.kind = 9) : t.FieldsOk ↔ zeroT t.ty ∧ zeroT t.res ∧ (0 ≤ t.n ∧ t.n ≤ t.most) ∧ t.namesOk :=
  ⟨fun h => ⟨h.ty2.elim (fun e => (e.elim h6 h9).elim) id, h.res2.elim (fun e => (h9 e).elim) id, h.n, h.names⟩,
   fun h => ⟨⟨fun e => (e.elim h6 h9).elim, fun e => (zero_valid h.1 e).elim⟩, Or.inr h.1, ⟨fun e => (h9 e).elim, fun e => (zero_valid h.2.1 e).elim⟩, Or.inr h.2.1, h.2.2.1, h.2.2.2⟩⟩
theorem fo_six {t : Tm} (k : t.kind = 6) : t.FieldsOk ↔ t.ty.valid = true ∧ zeroT t.res ∧ (0 ≤ t.n ∧ t.n ≤ t.most) ∧ t.namesOk :=
  have h9 : ¬ t.kind = 9 := by omega
  ⟨fun h => ⟨h.ty1.1 (Or.inl k), h.res2.elim (fun e => (h9 e).elim) id, h.n, h.names⟩,
   fun h => ⟨⟨fun _ => h.1, fun _ => Or.inl k⟩, Or.inl (Or.inl k), ⟨fun e => (h9 e).elim, fun e => (zero_valid h.2.1 e).elim⟩, Or.inr h.2.1, h.2.2.1, h.2.2.2⟩⟩
theorem fo_nine {t : Tm} (k : t.kind = 9) : t.FieldsOk ↔ t.ty.valid = true ∧ t.res.valid = true ∧ (0 ≤ t.n ∧ t.n ≤ t.most) ∧ t.namesOk :=
  ⟨fun h => ⟨h.ty1.1 (Or.inr k), h.res1.1 k, h.n, h.names⟩,
   fun h => ⟨⟨fun _ => h.1, fun _ => Or.inr k⟩, Or.inl (Or.inr k), ⟨fun _ => h.2.1, fun _ => k⟩, Or.inl k, h.2.2.1, h.2.2.2⟩⟩
theorem emp_list : (⟨#[]⟩ : ByteArray).toList = [] := nil_size rfl
def Tm.Clear (u : Tm) : Prop := u.name.toList = [] ∧ u.other.toList = [] ∧ u.n = 0 ∧ zeroT u.ty ∧ zeroT u.res

theorem clear_name {t : Tm} (h6 : ¬ t.kind = 6) (h9 : ¬ t.kind = 9) (h4 : ¬ t.kind = 4) (ha : t.arOk) (h2 : t.kind = 1 ∨ t.kind = 8) {r : Bool} (hr : r = true ↔ Nm t.name) :
    (r = true ∧ (Tm.mk t.kind ⟨#[]⟩ t.other t.n t.ty t.res t.args).Clear) ↔ t.NodeOk := by
  rw [node_fields ha, fo_plain h6 h9, names_1 h4 (by omega), hr, show t.most = 0 from by unfold Tm.most; rw [if_neg (by omega), if_neg (by omega)]]
  constructor
  · rintro ⟨a, b, c, d, e, f⟩
    exact ⟨e, f, ⟨by show 0 ≤ t.n; have : t.n = 0 := d; omega, by have : t.n = 0 := d; omega⟩, a, c⟩
  · rintro ⟨a, b, c, d, e⟩
    exact ⟨d, emp_list, e, by show t.n = 0; omega, a, b⟩
theorem clear_num {t : Tm} (h4 : ¬ t.kind = 4) (h1 : ¬ (t.kind = 1 ∨ t.kind = 6 ∨ t.kind = 8)) (h9 : ¬ t.kind = 9) (ha : t.arOk) {r : Bool} (hr : r = true ↔ 0 ≤ t.n ∧ t.n ≤ t.most) :
    (r = true ∧ (Tm.mk t.kind t.name t.other 0 t.ty t.res t.args).Clear) ↔ t.NodeOk := by
  rw [node_fields ha, fo_plain (fun e => h1 (Or.inr (Or.inl e))) h9, names_0 h4 h1 h9, hr]
  constructor
  · rintro ⟨a, b, c, d, e, f⟩
    exact ⟨e, f, a, b, c⟩
  · rintro ⟨a, b, c, d, e⟩
    exact ⟨c, d, e, rfl, a, b⟩
theorem clear_op {t : Tm} (h4 : t.kind = 4) (ha : t.arOk) :
    (true = true ∧ (Tm.mk t.kind ⟨#[]⟩ t.other t.n t.ty t.res t.args).Clear) ↔ t.NodeOk := by
  have hp : 0 < opAr t.name.toList := by
    have h1 := ha.1
    have h2 := ha.2 h4
    rw [Tm.arity, h4] at h1
    have h3 : (arK 4 (opAr t.name.toList)) = opAr t.name.toList := by simp [arK]
    omega
  rw [node_fields ha, fo_plain (by omega) (by omega), names_4 h4, show t.most = 0 from by unfold Tm.most; rw [if_neg (by omega), if_neg (by omega)]]
  constructor
  · rintro ⟨-, b, c, d, e, f⟩
    exact ⟨e, f, ⟨by show 0 ≤ t.n; have : t.n = 0 := d; omega, by have : t.n = 0 := d; omega⟩, hp, c⟩
  · rintro ⟨a, b, c, d, e⟩
    exact ⟨rfl, emp_list, e, by show t.n = 0; omega, a, b⟩
theorem clear_six {t : Tm} (k : t.kind = 6) (ha : t.arOk) {r : Bool} (hr : r = true ↔ Nm t.name ∧ t.ty.valid = true) :
    (r = true ∧ (Tm.mk t.kind ⟨#[]⟩ t.other t.n (.mk 0 []) t.res t.args).Clear) ↔ t.NodeOk := by
  rw [node_fields ha, fo_six k, names_1 (by omega) (by omega), hr, show t.most = 0 from by unfold Tm.most; rw [if_neg (by omega), if_neg (by omega)]]
  constructor
  · rintro ⟨⟨a, a2⟩, b, c, d, e, f⟩
    exact ⟨a2, f, ⟨by show 0 ≤ t.n; have : t.n = 0 := d; omega, by have : t.n = 0 := d; omega⟩, a, c⟩
  · rintro ⟨a, b, c, d, e⟩
    exact ⟨⟨d, a⟩, emp_list, e, by show t.n = 0; omega, ⟨rfl, rfl⟩, b⟩
theorem clear_nine {t : Tm} (k : t.kind = 9) (ha : t.arOk) {r : Bool} (hr : r = true ↔ Nm t.name ∧ Nm t.other ∧ t.name ≠ t.other ∧ t.ty.valid = true ∧ t.res.valid = true) :
    (r = true ∧ (Tm.mk t.kind ⟨#[]⟩ ⟨#[]⟩ t.n (.mk 0 []) (.mk 0 []) t.args).Clear) ↔ t.NodeOk := by
  rw [node_fields ha, fo_nine k, names_9 (by omega) (by omega) k, hr, show t.most = 0 from by unfold Tm.most; rw [if_neg (by omega), if_neg (by omega)]]
  constructor
  · rintro ⟨⟨a1, a2, a3, a4, a5⟩, b, c, d, e, f⟩
    exact ⟨a4, a5, ⟨by show 0 ≤ t.n; have : t.n = 0 := d; omega, by have : t.n = 0 := d; omega⟩, a1, a2, a3⟩
  · rintro ⟨a, b, c, d1, d2, d3⟩
    exact ⟨⟨d1, d2, d3, a, b⟩, emp_list, emp_list, by show t.n = 0; omega, ⟨rfl, rfl⟩, ⟨rfl, rfl⟩⟩
theorem clear_oth {t : Tm} (h4 : ¬ t.kind = 4) (h1 : ¬ (t.kind = 1 ∨ t.kind = 6 ∨ t.kind = 8)) (h9 : ¬ t.kind = 9) (h2 : ¬ t.kind = 2) (h3 : ¬ t.kind = 3) (ha : t.arOk) :
    (true = true ∧ (Tm.mk t.kind t.name t.other t.n t.ty t.res t.args).Clear) ↔ t.NodeOk := by
  rw [node_fields ha, fo_plain (fun e => h1 (Or.inr (Or.inl e))) h9, names_0 h4 h1 h9, show t.most = 0 from by unfold Tm.most; rw [if_neg h2, if_neg h3]]
  constructor
  · rintro ⟨-, b, c, d, e, f⟩
    exact ⟨e, f, ⟨by show 0 ≤ t.n; have : t.n = 0 := d; omega, by have : t.n = 0 := d; omega⟩, b, c⟩
  · rintro ⟨a, b, c, d, e⟩
    exact ⟨rfl, d, e, by show t.n = 0; omega, a, b⟩

set_option maxRecDepth 100000 in
set_option maxHeartbeats 8000000 in
theorem formI_any {C : Nat → Prop} {t : Tm} {tp : Option Addr} {tc : Nat} {rp : Option Addr} {rc : Nat} {p : Option Addr} {c : Nat} (w : World) (hka : KA w) (hT : TM' w C t tp tc rp rc p c) (hn : t.wt ≤ 2097152) :
    Calls Tryd.prog 44 #[tmV t tp tc rp rc p c] w (Tells t.NodeOk w) := by
  have hb0 := al_below w (.cells (tmC t tp tc rp rc p c) 35)
  have HA := Lib.hid (hasAr_any t tp tc rp rc p c _ (hka.below hb0) hn)
  have HB := Lib.hid hb0
  have hwt := t.wt_eq
  have HNM := Lib.hid (fun W => nmI_any t.name W (by omega))
  have HNO := Lib.hid (fun W => nmI_any t.other W (by omega))
  have n1 : nodesS t.ty.args ≤ 2097152 := by omega
  have n2 : nodesS t.res.args ≤ 2097152 := by omega
  have HVT := Lib.hid (fun (W : World) (hW : Below w.heap.size w W) => validI_any (⟨_, rfl, hT.ty.keep hW⟩ : TT W C t.ty (.agg #[.int .i64 t.ty.kind, .slice tp t.ty.args.length tc])) n1)
  have HVR := Lib.hid (fun (W : World) (hW : Below w.heap.size w W) => validI_any (⟨_, rfl, hT.res.keep hW⟩ : TT W C t.res (.agg #[.int .i64 t.res.kind, .slice rp t.res.args.length rc])) n2)
  clear hka hb0 hwt n1 n2 hT hn
  have HX := Lib.hid (Bx9.new w t tp tc rp rc p c 35)
  go_enter Tryd.func44, Tryd.ntmps44
  go_wp2_with fail
  refine HA.out.mono ?_
  rintro e w1 ⟨r, hr, rfl, hb1⟩
  have HR := Lib.hid hr
  have HB1 := Lib.hid (HB.out.trans (hb1.mono HB.out.size))
  have HX1 := Lib.hid (HX.out.keep hb1)
  obtain ⟨g0, g1, g2, g3, g4, g5, g6, g7, g8⟩ := HX.out.keep hb1
  clear hr hb1 HA
  cases r with
  | false =>
    go_wp2_with fail
    go_ret
    exact ⟨_, lit_f (fun h => by have := HR.out.2 h.ar; cases this), rfl, HB1.out⟩
  | true =>
    have HAR := Lib.hid (HR.out.1 rfl)
    have hbn := al_below w1 (.cells (tmC t tp tc rp rc p c) 35)
    have HBN := Lib.hid (HB1.out.trans (hbn.mono HB1.out.size))
    have HXN := Lib.hid (HX1.out.keep hbn)
    have HNB := Lib.hid (blk_new w1 (.cells (tmC t tp tc rp rc p c) 35))
    have n0 : (w1.alloc (.cells #[.int .i64 t.kind, .string t.name, .string t.other, .int .i64 t.n, .int .i64 t.ty.kind, .slice tp t.ty.args.length tc, .int .i64 t.res.kind, .slice rp t.res.args.length rc, .slice p t.args.length c] 35)).cell? ⟨w.heap.size, 0, none⟩ = some (.int .i64 t.kind) := HXN.out.kind
    clear hbn
    go_upto_block 0 with fail
    go_cut [3] from 5 to 112 (fun s3 wx => ∃ (pr : Bool) (u : Tm) (tp' : Option Addr) (tc' : Nat) (rp' : Option Addr) (rc' : Nat), s3 = .bool pr ∧ Bx9 wx w1.heap.size u tp' tc' rp' rc' p c ∧ ((pr = true ∧ u.Clear) ↔ t.NodeOk) ∧ Below w.heap.size w wx)
    case first =>
      clear n0 g0 g1 g2 g3 g4 g5 g6 g7 g8
      obtain ⟨g0, g1, g2, g3, g4, g5, g6, g7, g8⟩ := HXN.out
      have HKN := Lib.hid HNB.out
      by_cases k1 : t.kind = 1
      · have HKD := Lib.hid k1
        have e1 : (t.kind == 1) = true := by simp [k1]
        clear k1
        go_wp2_with fail
        refine (HNM.out _).mono ?_
        rintro e w2 ⟨r2, hr2, rfl, hb2⟩
        have HR2 := Lib.hid hr2
        clear hr2
        have HB2 := Lib.hid (HBN.out.trans (hb2.mono HBN.out.size))
        have HX2 := Lib.hid (HXN.out.keep hb2)
        have HK2 := Lib.hid ((hb2.block _ (Array.getElem?_eq_some_iff.1 HKN.out).1).trans HKN.out)
        clear hb2 g0 g1 g2 g3 g4 g5 g6 g7 g8
        obtain ⟨g0, g1, g2, g3, g4, g5, g6, g7, g8⟩ := HX2.out
        have c1 := cell_of_blk HK2.out 1
        have cz := unfrozen_of_blk HK2.out
        go_wp2_with fail
        go_meet
        exact ⟨_, (.mk t.kind ⟨#[]⟩ t.other t.n t.ty t.res t.args), tp, tc, rp, rc, rfl, Bx9.of (by rw [Go.Joins.block_setCell HK2.out _]; rfl), clear_name (by have := HKD.out; omega) (by have := HKD.out; omega) (by have := HKD.out; omega) HAR.out (Or.inl HKD.out) HR2.out, (HB2.out.setCell (p := ⟨w1.heap.size, 1, none⟩) (by show w.heap.size ≤ w1.heap.size; exact HB1.out.size) _)⟩
      by_cases k8 : t.kind = 8
      · have HKD := Lib.hid k8
        have e1 : (t.kind == 1) = false := by simp [k8]
        have e8 : (t.kind == 8) = true := by simp [k8]
        clear k1
        clear k8
        go_wp2_with fail
        refine (HNM.out _).mono ?_
        rintro e w2 ⟨r2, hr2, rfl, hb2⟩
        have HR2 := Lib.hid hr2
        clear hr2
        have HB2 := Lib.hid (HBN.out.trans (hb2.mono HBN.out.size))
        have HX2 := Lib.hid (HXN.out.keep hb2)
        have HK2 := Lib.hid ((hb2.block _ (Array.getElem?_eq_some_iff.1 HKN.out).1).trans HKN.out)
        clear hb2 g0 g1 g2 g3 g4 g5 g6 g7 g8
        obtain ⟨g0, g1, g2, g3, g4, g5, g6, g7, g8⟩ := HX2.out
        have c1 := cell_of_blk HK2.out 1
        have cz := unfrozen_of_blk HK2.out
        go_wp2_with fail
        go_meet
        exact ⟨_, (.mk t.kind ⟨#[]⟩ t.other t.n t.ty t.res t.args), tp, tc, rp, rc, rfl, Bx9.of (by rw [Go.Joins.block_setCell HK2.out _]; rfl), clear_name (by have := HKD.out; omega) (by have := HKD.out; omega) (by have := HKD.out; omega) HAR.out (Or.inr HKD.out) HR2.out, (HB2.out.setCell (p := ⟨w1.heap.size, 1, none⟩) (by show w.heap.size ≤ w1.heap.size; exact HB1.out.size) _)⟩
      by_cases k2 : t.kind = 2
      · have HKD := Lib.hid k2
        have e1 : (t.kind == 1) = false := by simp [k2]
        have e8 : (t.kind == 8) = false := by simp [k2]
        have e2 : (t.kind == 2) = true := by simp [k2]
        clear k1 k8
        clear k2
        have c3 := cell_of_blk HKN.out 3
        have cz := unfrozen_of_blk HKN.out
        have HRD := Lib.hid (redI_any t.n)
        go_wp2_with fail
        go_region_held3 (fun w' => w'.cell? ⟨w.heap.size, 3, none⟩ = some (.int .i64 t.n) ∧ w'.heap[w1.heap.size]? = some (.cells (tmC t tp tc rp rc p c) 35 (0, 0)) ∧ Below w.heap.size w w')
          (first
            | (go_keep; done)
            | exact ⟨g3, HKN.out, HBN.out.drew⟩
            | assumption)
          (first
            | (go_at_call 68; refine (HRD.out _).mono ?_; rintro e w5 ⟨rfl, rfl⟩))
        rename_i hH
        clear hH
        go_wp2_with fail
        go_meet
        exact ⟨_, (.mk t.kind t.name t.other 0 t.ty t.res t.args), tp, tc, rp, rc, rfl, Bx9.of (blk_new w1 _), clear_num (by have := HKD.out; omega) (by have := HKD.out; omega) (by have := HKD.out; omega) HAR.out (by rw [beq_iff_eq, Tm.most, if_pos HKD.out]; omega), (HB1.out.trans ((al_below w1 _).mono HB1.out.size)).drew⟩
      by_cases k3 : t.kind = 3
      · have HKD := Lib.hid k3
        have e1 : (t.kind == 1) = false := by simp [k3]
        have e8 : (t.kind == 8) = false := by simp [k3]
        have e2 : (t.kind == 2) = false := by simp [k3]
        have e3 : (t.kind == 3) = true := by simp [k3]
        clear k1 k8 k2
        clear k3
        have c3 := cell_of_blk HKN.out 3
        have cz := unfrozen_of_blk HKN.out
        by_cases z0 : t.n = 0
        · have z1 : (t.n == 0) = true := by simp [z0]
          have HZ := Lib.hid z0
          clear z0
          go_wp2_with fail
          go_meet
          exact ⟨_, (.mk t.kind t.name t.other 0 t.ty t.res t.args), tp, tc, rp, rc, rfl, Bx9.of (blk_new w1 _), clear_num (by have := HKD.out; omega) (by have := HKD.out; omega) (by have := HKD.out; omega) HAR.out (by rw [Tm.most, if_neg (by have := HKD.out; omega), if_pos HKD.out]; have := HZ.out; simp only [true_iff]; omega), (HB1.out.trans ((al_below w1 _).mono HB1.out.size))⟩
        · have z1 : (t.n == 0) = false := by simp [z0]
          have HZ := Lib.hid z0
          clear z0
          go_wp2_with fail
          go_meet
          exact ⟨_, (.mk t.kind t.name t.other 0 t.ty t.res t.args), tp, tc, rp, rc, rfl, Bx9.of (blk_new w1 _), clear_num (by have := HKD.out; omega) (by have := HKD.out; omega) (by have := HKD.out; omega) HAR.out (by rw [Tm.most, if_neg (by have := HKD.out; omega), if_pos HKD.out]; have := HZ.out; rw [beq_iff_eq]; omega), (HB1.out.trans ((al_below w1 _).mono HB1.out.size))⟩
      by_cases k4 : t.kind = 4
      · have HKD := Lib.hid k4
        have e1 : (t.kind == 1) = false := by simp [k4]
        have e8 : (t.kind == 8) = false := by simp [k4]
        have e2 : (t.kind == 2) = false := by simp [k4]
        have e3 : (t.kind == 3) = false := by simp [k4]
        have e4 : (t.kind == 4) = true := by simp [k4]
        clear k1 k8 k2 k3
        clear k4
        have c1 := cell_of_blk HKN.out 1
        have cz := unfrozen_of_blk HKN.out
        go_wp2_with fail
        go_meet
        exact ⟨_, (.mk t.kind ⟨#[]⟩ t.other t.n t.ty t.res t.args), tp, tc, rp, rc, rfl, Bx9.of (blk_new w1 _), clear_op HKD.out HAR.out, (HB1.out.trans ((al_below w1 _).mono HB1.out.size))⟩
      by_cases k6 : t.kind = 6
      · have HKD := Lib.hid k6
        have e1 : (t.kind == 1) = false := by simp [k6]
        have e8 : (t.kind == 8) = false := by simp [k6]
        have e2 : (t.kind == 2) = false := by simp [k6]
        have e3 : (t.kind == 3) = false := by simp [k6]
        have e4 : (t.kind == 4) = false := by simp [k6]
        have e6 : (t.kind == 6) = true := by simp [k6]
        clear k1 k8 k2 k3 k4
        clear k6
        go_wp2_with fail
        refine (HNM.out _).mono ?_
        rintro e w2 ⟨r2, hr2, rfl, hb2⟩
        have HR2 := Lib.hid hr2
        clear hr2
        have HB2 := Lib.hid (HBN.out.trans (hb2.mono HBN.out.size))
        have HX2 := Lib.hid (HXN.out.keep hb2)
        have HK2 := Lib.hid ((hb2.block _ (Array.getElem?_eq_some_iff.1 HKN.out).1).trans HKN.out)
        clear hb2 g0 g1 g2 g3 g4 g5 g6 g7 g8
        obtain ⟨g0, g1, g2, g3, g4, g5, g6, g7, g8⟩ := HX2.out
        have c1 := cell_of_blk HK2.out 1
        have c4 := cell_of_blk HK2.out 4
        have c5 := cell_of_blk HK2.out 5
        have cz := unfrozen_of_blk HK2.out
        cases r2 with
        | false =>
          go_wp2_with fail
          go_meet
          exact ⟨_, (.mk t.kind ⟨#[]⟩ t.other t.n (.mk 0 []) t.res t.args), none, 0, rp, rc, rfl, Bx9.of (by rw [Go.Joins.block_setCell (Go.Joins.block_setCell (Go.Joins.block_setCell HK2.out _) _) _]; rfl), clear_six HKD.out HAR.out ⟨fun h => (by cases h), fun h => absurd (HR2.out.2 h.1) (by decide)⟩, (((HB2.out.setCell (p := ⟨w1.heap.size, 1, none⟩) (by show w.heap.size ≤ w1.heap.size; exact HB1.out.size) _).setCell (p := ⟨w1.heap.size, 4, none⟩) (by show w.heap.size ≤ w1.heap.size; exact HB1.out.size) _).setCell (p := ⟨w1.heap.size, 5, none⟩) (by show w.heap.size ≤ w1.heap.size; exact HB1.out.size) _)⟩
        | true =>
          clear c1 c4 c5 cz
          go_wp2_with fail
          refine (HVT.out _ HB2.out).mono ?_
          rintro e w3 ⟨r3, hr3, rfl, hb3⟩
          have HR3 := Lib.hid hr3
          clear hr3
          have HB3 := Lib.hid (HB2.out.trans (hb3.mono HB2.out.size))
          have HX3 := Lib.hid (HX2.out.keep hb3)
          have HK3 := Lib.hid ((hb3.block _ (Array.getElem?_eq_some_iff.1 HK2.out).1).trans HK2.out)
          clear hb3 g0 g1 g2 g3 g4 g5 g6 g7 g8
          obtain ⟨g0, g1, g2, g3, g4, g5, g6, g7, g8⟩ := HX3.out
          have c1 := cell_of_blk HK3.out 1
          have c4 := cell_of_blk HK3.out 4
          have c5 := cell_of_blk HK3.out 5
          have cz := unfrozen_of_blk HK3.out
          go_wp2_with fail
          go_meet
          exact ⟨_, (.mk t.kind ⟨#[]⟩ t.other t.n (.mk 0 []) t.res t.args), none, 0, rp, rc, rfl, Bx9.of (by rw [Go.Joins.block_setCell (Go.Joins.block_setCell (Go.Joins.block_setCell HK3.out _) _) _]; rfl), clear_six HKD.out HAR.out (by rw [HR3.out]; exact ⟨fun h => ⟨HR2.out.1 (by trivial), h⟩, fun h => h.2⟩), (((HB3.out.setCell (p := ⟨w1.heap.size, 1, none⟩) (by show w.heap.size ≤ w1.heap.size; exact HB1.out.size) _).setCell (p := ⟨w1.heap.size, 4, none⟩) (by show w.heap.size ≤ w1.heap.size; exact HB1.out.size) _).setCell (p := ⟨w1.heap.size, 5, none⟩) (by show w.heap.size ≤ w1.heap.size; exact HB1.out.size) _)⟩
      by_cases k9 : t.kind = 9
      · have HKD := Lib.hid k9
        have e1 : (t.kind == 1) = false := by simp [k9]
        have e8 : (t.kind == 8) = false := by simp [k9]
        have e2 : (t.kind == 2) = false := by simp [k9]
        have e3 : (t.kind == 3) = false := by simp [k9]
        have e4 : (t.kind == 4) = false := by simp [k9]
        have e6 : (t.kind == 6) = false := by simp [k9]
        have e9 : (t.kind == 9) = true := by simp [k9]
        clear k1 k8 k2 k3 k4 k6
        clear k9
        go_wp2_with fail
        refine (HNM.out _).mono ?_
        rintro e w2 ⟨r2, hr2, rfl, hb2⟩
        have HR2 := Lib.hid hr2
        clear hr2
        have HB2 := Lib.hid (HBN.out.trans (hb2.mono HBN.out.size))
        have HX2 := Lib.hid (HXN.out.keep hb2)
        have HK2 := Lib.hid ((hb2.block _ (Array.getElem?_eq_some_iff.1 HKN.out).1).trans HKN.out)
        clear hb2 g0 g1 g2 g3 g4 g5 g6 g7 g8
        obtain ⟨g0, g1, g2, g3, g4, g5, g6, g7, g8⟩ := HX2.out
        cases r2 with
        | false =>
          have c1 := cell_of_blk HK2.out 1
          have c2 := cell_of_blk HK2.out 2
          have c4 := cell_of_blk HK2.out 4
          have c5 := cell_of_blk HK2.out 5
          have c6 := cell_of_blk HK2.out 6
          have c7 := cell_of_blk HK2.out 7
          have cz := unfrozen_of_blk HK2.out
          go_wp2_with fail
          go_meet
          exact ⟨_, (.mk t.kind ⟨#[]⟩ ⟨#[]⟩ t.n (.mk 0 []) (.mk 0 []) t.args), none, 0, none, 0, rfl, Bx9.of (by rw [Go.Joins.block_setCell (Go.Joins.block_setCell (Go.Joins.block_setCell (Go.Joins.block_setCell (Go.Joins.block_setCell (Go.Joins.block_setCell HK2.out _) _) _) _) _) _]; rfl), clear_nine HKD.out HAR.out ⟨fun h => (by cases h), fun h => absurd (HR2.out.2 h.1) (by decide)⟩, ((((((HB2.out.setCell (p := ⟨w1.heap.size, 1, none⟩) (by show w.heap.size ≤ w1.heap.size; exact HB1.out.size) _).setCell (p := ⟨w1.heap.size, 2, none⟩) (by show w.heap.size ≤ w1.heap.size; exact HB1.out.size) _).setCell (p := ⟨w1.heap.size, 4, none⟩) (by show w.heap.size ≤ w1.heap.size; exact HB1.out.size) _).setCell (p := ⟨w1.heap.size, 5, none⟩) (by show w.heap.size ≤ w1.heap.size; exact HB1.out.size) _).setCell (p := ⟨w1.heap.size, 6, none⟩) (by show w.heap.size ≤ w1.heap.size; exact HB1.out.size) _).setCell (p := ⟨w1.heap.size, 7, none⟩) (by show w.heap.size ≤ w1.heap.size; exact HB1.out.size) _)⟩
        | true =>
          go_wp2_with fail
          refine (HNO.out _).mono ?_
          rintro e w3 ⟨r3, hr3, rfl, hb3⟩
          have HR3 := Lib.hid hr3
          clear hr3
          have HB3 := Lib.hid (HB2.out.trans (hb3.mono HB2.out.size))
          have HX3 := Lib.hid (HX2.out.keep hb3)
          have HK3 := Lib.hid ((hb3.block _ (Array.getElem?_eq_some_iff.1 HK2.out).1).trans HK2.out)
          clear hb3 g0 g1 g2 g3 g4 g5 g6 g7 g8
          obtain ⟨g0, g1, g2, g3, g4, g5, g6, g7, g8⟩ := HX3.out
          cases r3 with
          | false =>
            have c1 := cell_of_blk HK3.out 1
            have c2 := cell_of_blk HK3.out 2
            have c4 := cell_of_blk HK3.out 4
            have c5 := cell_of_blk HK3.out 5
            have c6 := cell_of_blk HK3.out 6
            have c7 := cell_of_blk HK3.out 7
            have cz := unfrozen_of_blk HK3.out
            go_wp2_with fail
            go_meet
            exact ⟨_, (.mk t.kind ⟨#[]⟩ ⟨#[]⟩ t.n (.mk 0 []) (.mk 0 []) t.args), none, 0, none, 0, rfl, Bx9.of (by rw [Go.Joins.block_setCell (Go.Joins.block_setCell (Go.Joins.block_setCell (Go.Joins.block_setCell (Go.Joins.block_setCell (Go.Joins.block_setCell HK3.out _) _) _) _) _) _]; rfl), clear_nine HKD.out HAR.out ⟨fun h => (by cases h), fun h => absurd (HR3.out.2 h.2.1) (by decide)⟩, ((((((HB3.out.setCell (p := ⟨w1.heap.size, 1, none⟩) (by show w.heap.size ≤ w1.heap.size; exact HB1.out.size) _).setCell (p := ⟨w1.heap.size, 2, none⟩) (by show w.heap.size ≤ w1.heap.size; exact HB1.out.size) _).setCell (p := ⟨w1.heap.size, 4, none⟩) (by show w.heap.size ≤ w1.heap.size; exact HB1.out.size) _).setCell (p := ⟨w1.heap.size, 5, none⟩) (by show w.heap.size ≤ w1.heap.size; exact HB1.out.size) _).setCell (p := ⟨w1.heap.size, 6, none⟩) (by show w.heap.size ≤ w1.heap.size; exact HB1.out.size) _).setCell (p := ⟨w1.heap.size, 7, none⟩) (by show w.heap.size ≤ w1.heap.size; exact HB1.out.size) _)⟩
          | true =>
            by_cases hq : t.name = t.other
            · have hq1 := str_yes hq
              have HQ := Lib.hid hq
              clear hq
              have c1 := cell_of_blk HK3.out 1
              have c2 := cell_of_blk HK3.out 2
              have c4 := cell_of_blk HK3.out 4
              have c5 := cell_of_blk HK3.out 5
              have c6 := cell_of_blk HK3.out 6
              have c7 := cell_of_blk HK3.out 7
              have cz := unfrozen_of_blk HK3.out
              go_wp2_with fail
              go_meet
              exact ⟨_, (.mk t.kind ⟨#[]⟩ ⟨#[]⟩ t.n (.mk 0 []) (.mk 0 []) t.args), none, 0, none, 0, rfl, Bx9.of (by rw [Go.Joins.block_setCell (Go.Joins.block_setCell (Go.Joins.block_setCell (Go.Joins.block_setCell (Go.Joins.block_setCell (Go.Joins.block_setCell HK3.out _) _) _) _) _) _]; rfl), clear_nine HKD.out HAR.out ⟨fun h => (by cases h), fun h => absurd HQ.out h.2.2.1⟩, ((((((HB3.out.setCell (p := ⟨w1.heap.size, 1, none⟩) (by show w.heap.size ≤ w1.heap.size; exact HB1.out.size) _).setCell (p := ⟨w1.heap.size, 2, none⟩) (by show w.heap.size ≤ w1.heap.size; exact HB1.out.size) _).setCell (p := ⟨w1.heap.size, 4, none⟩) (by show w.heap.size ≤ w1.heap.size; exact HB1.out.size) _).setCell (p := ⟨w1.heap.size, 5, none⟩) (by show w.heap.size ≤ w1.heap.size; exact HB1.out.size) _).setCell (p := ⟨w1.heap.size, 6, none⟩) (by show w.heap.size ≤ w1.heap.size; exact HB1.out.size) _).setCell (p := ⟨w1.heap.size, 7, none⟩) (by show w.heap.size ≤ w1.heap.size; exact HB1.out.size) _)⟩
            · have hq1 := str_no hq
              have HQ := Lib.hid hq
              clear hq
              go_wp2_with fail
              refine (HVT.out _ HB3.out).mono ?_
              rintro e w4 ⟨r4, hr4, rfl, hb4⟩
              have HR4 := Lib.hid hr4
              clear hr4
              have HB4 := Lib.hid (HB3.out.trans (hb4.mono HB3.out.size))
              have HX4 := Lib.hid (HX3.out.keep hb4)
              have HK4 := Lib.hid ((hb4.block _ (Array.getElem?_eq_some_iff.1 HK3.out).1).trans HK3.out)
              clear hb4 g0 g1 g2 g3 g4 g5 g6 g7 g8
              obtain ⟨g0, g1, g2, g3, g4, g5, g6, g7, g8⟩ := HX4.out
              cases r4 with
              | false =>
                have c1 := cell_of_blk HK4.out 1
                have c2 := cell_of_blk HK4.out 2
                have c4 := cell_of_blk HK4.out 4
                have c5 := cell_of_blk HK4.out 5
                have c6 := cell_of_blk HK4.out 6
                have c7 := cell_of_blk HK4.out 7
                have cz := unfrozen_of_blk HK4.out
                go_wp2_with fail
                go_meet
                exact ⟨_, (.mk t.kind ⟨#[]⟩ ⟨#[]⟩ t.n (.mk 0 []) (.mk 0 []) t.args), none, 0, none, 0, rfl, Bx9.of (by rw [Go.Joins.block_setCell (Go.Joins.block_setCell (Go.Joins.block_setCell (Go.Joins.block_setCell (Go.Joins.block_setCell (Go.Joins.block_setCell HK4.out _) _) _) _) _) _]; rfl), clear_nine HKD.out HAR.out ⟨fun h => (by cases h), fun h => absurd (HR4.out.trans h.2.2.2.1) (by decide)⟩, ((((((HB4.out.setCell (p := ⟨w1.heap.size, 1, none⟩) (by show w.heap.size ≤ w1.heap.size; exact HB1.out.size) _).setCell (p := ⟨w1.heap.size, 2, none⟩) (by show w.heap.size ≤ w1.heap.size; exact HB1.out.size) _).setCell (p := ⟨w1.heap.size, 4, none⟩) (by show w.heap.size ≤ w1.heap.size; exact HB1.out.size) _).setCell (p := ⟨w1.heap.size, 5, none⟩) (by show w.heap.size ≤ w1.heap.size; exact HB1.out.size) _).setCell (p := ⟨w1.heap.size, 6, none⟩) (by show w.heap.size ≤ w1.heap.size; exact HB1.out.size) _).setCell (p := ⟨w1.heap.size, 7, none⟩) (by show w.heap.size ≤ w1.heap.size; exact HB1.out.size) _)⟩
              | true =>
                go_wp2_with fail
                refine (HVR.out _ HB4.out).mono ?_
                rintro e w5 ⟨r5, hr5, rfl, hb5⟩
                have HR5 := Lib.hid hr5
                clear hr5
                have HB5 := Lib.hid (HB4.out.trans (hb5.mono HB4.out.size))
                have HX5 := Lib.hid (HX4.out.keep hb5)
                have HK5 := Lib.hid ((hb5.block _ (Array.getElem?_eq_some_iff.1 HK4.out).1).trans HK4.out)
                clear hb5 g0 g1 g2 g3 g4 g5 g6 g7 g8
                obtain ⟨g0, g1, g2, g3, g4, g5, g6, g7, g8⟩ := HX5.out
                have c1 := cell_of_blk HK5.out 1
                have c2 := cell_of_blk HK5.out 2
                have c4 := cell_of_blk HK5.out 4
                have c5 := cell_of_blk HK5.out 5
                have c6 := cell_of_blk HK5.out 6
                have c7 := cell_of_blk HK5.out 7
                have cz := unfrozen_of_blk HK5.out
                go_wp2_with fail
                go_meet
                exact ⟨_, (.mk t.kind ⟨#[]⟩ ⟨#[]⟩ t.n (.mk 0 []) (.mk 0 []) t.args), none, 0, none, 0, rfl, Bx9.of (by rw [Go.Joins.block_setCell (Go.Joins.block_setCell (Go.Joins.block_setCell (Go.Joins.block_setCell (Go.Joins.block_setCell (Go.Joins.block_setCell HK5.out _) _) _) _) _) _]; rfl), clear_nine HKD.out HAR.out (by rw [HR5.out]; exact ⟨fun h => ⟨HR2.out.1 (by trivial), HR3.out.1 (by trivial), HQ.out, HR4.out.symm, h⟩, fun h => h.2.2.2.2⟩), ((((((HB5.out.setCell (p := ⟨w1.heap.size, 1, none⟩) (by show w.heap.size ≤ w1.heap.size; exact HB1.out.size) _).setCell (p := ⟨w1.heap.size, 2, none⟩) (by show w.heap.size ≤ w1.heap.size; exact HB1.out.size) _).setCell (p := ⟨w1.heap.size, 4, none⟩) (by show w.heap.size ≤ w1.heap.size; exact HB1.out.size) _).setCell (p := ⟨w1.heap.size, 5, none⟩) (by show w.heap.size ≤ w1.heap.size; exact HB1.out.size) _).setCell (p := ⟨w1.heap.size, 6, none⟩) (by show w.heap.size ≤ w1.heap.size; exact HB1.out.size) _).setCell (p := ⟨w1.heap.size, 7, none⟩) (by show w.heap.size ≤ w1.heap.size; exact HB1.out.size) _)⟩
      have e1 : (t.kind == 1) = false := by simp [k1]
      have e8 : (t.kind == 8) = false := by simp [k8]
      have e2 : (t.kind == 2) = false := by simp [k2]
      have e3 : (t.kind == 3) = false := by simp [k3]
      have e4 : (t.kind == 4) = false := by simp [k4]
      have e6 : (t.kind == 6) = false := by simp [k6]
      have e9 : (t.kind == 9) = false := by simp [k9]
      have HKO := Lib.hid (And.intro k4 (And.intro (show ¬ (t.kind = 1 ∨ t.kind = 6 ∨ t.kind = 8) by omega) (And.intro k9 (And.intro k2 k3))))
      clear k1 k8 k2 k3 k4 k6 k9
      go_wp2_with fail
      go_meet
      exact ⟨_, t, tp, tc, rp, rc, rfl, Bx9.of HKN.out, (by have := clear_oth HKO.out.1 HKO.out.2.1 HKO.out.2.2.1 HKO.out.2.2.2.1 HKO.out.2.2.2.2 HAR.out; rwa [← t.eta] at this), HBN.out⟩
    case rest =>
      obtain ⟨pr, u, tp', tc', rp', rc', rfl, hx, hiff, hbx⟩ := hcut
      have HI := Lib.hid hiff
      have HBX := Lib.hid hbx
      have HXU := Lib.hid hx
      clear hiff hbx hx g0 g1 g2 g3 g4 g5 g6 g7 g8
      obtain ⟨d0, d1, d2, d3, d4, d5, d6, d7, d8⟩ := HXU.out
      cases pr with
      | false =>
        go_wp2_with fail
        go_ret
        exact ⟨_, lit_f (fun h => by have := (HI.out.2 h).1; cases this), rfl, HBX.out⟩
      | true =>
        by_cases z1 : u.name.toList = []
        case neg =>
          have q1 : (u.name.toList == []) = false := by simpa using z1
          have HZ1 := Lib.hid z1
          clear z1
          go_wp2_with fail
          go_ret
          exact ⟨_, lit_f (fun h => HZ1.out (HI.out.2 h).2.1), rfl, HBX.out⟩
        have q1 : (u.name.toList == []) = true := by simpa using z1
        have HZ1 := Lib.hid z1
        clear z1
        by_cases z2 : u.other.toList = []
        case neg =>
          have q2 : (u.other.toList == []) = false := by simpa using z2
          have HZ2 := Lib.hid z2
          clear z2
          go_wp2_with fail
          go_ret
          exact ⟨_, lit_f (fun h => HZ2.out (HI.out.2 h).2.2.1), rfl, HBX.out⟩
        have q2 : (u.other.toList == []) = true := by simpa using z2
        have HZ2 := Lib.hid z2
        clear z2
        by_cases z3 : u.n = 0
        case neg =>
          have q3 : (u.n == 0) = false := by simpa using z3
          have HZ3 := Lib.hid z3
          clear z3
          go_wp2_with fail
          go_ret
          exact ⟨_, lit_f (fun h => HZ3.out (HI.out.2 h).2.2.2.1), rfl, HBX.out⟩
        have q3 : (u.n == 0) = true := by simpa using z3
        have HZ3 := Lib.hid z3
        clear z3
        go_wp2_with fail
        refine (zeroI_any _ _ _ _ _).mono ?_
        rintro e w8 ⟨r8, hr8, rfl, hb8⟩
        have HR8 := Lib.hid hr8
        have HB8 := Lib.hid (HBX.out.trans (hb8.mono HBX.out.size))
        clear hr8 d0 d1 d2 d3 d4 d5 d6 d7 d8
        obtain ⟨d0, d1, d2, d3, d4, d5, d6, d7, d8⟩ := HXU.out.keep hb8
        clear hb8
        cases r8 with
        | false =>
          go_wp2_with fail
          go_ret
          exact ⟨_, lit_f (fun h => by have := HR8.out.2 (HI.out.2 h).2.2.2.2.1; cases this), rfl, HB8.out⟩
        | true =>
          go_wp2_with fail
          refine (zeroI_any _ _ _ _ _).mono ?_
          rintro e w9 ⟨r9, hr9, rfl, hb9⟩
          have HR9 := Lib.hid hr9
          have HB9 := Lib.hid (HB8.out.trans (hb9.mono HB8.out.size))
          clear hr9 hb9 d0 d1 d2 d3 d4 d5 d6 d7 d8
          go_wp2_with fail
          go_ret
          exact ⟨_, ⟨fun h => HI.out.1 ⟨by trivial, HZ1.out, HZ2.out, HZ3.out, HR8.out.1 (by trivial), HR9.out.1 h⟩, fun h => HR9.out.2 (HI.out.2 h).2.2.2.2.2⟩, rfl, HB9.out⟩
end Go.Proofs.YtfeijijeohfpgaaDoor
namespace Go.Proofs.YtfeijijeohfpgaaDoor
open Go Go.RowKit Go.Shelf
attribute [local go_sem] Oper.semAt_some

abbrev iterL (Bn Be : Nat) : Value := .func (.func 59) #[] #[.pointer (some ⟨Bn, 0, none⟩), .pointer (some ⟨Be, 0, none⟩)]
def IterL (w : World) (b0 o0 : Nat) (n : Int) (Bn Be : Nat) : Prop := w.heap[Bn]? = some (.cells #[.int .i64 n] 3 (0, 0)) ∧ w.heap[Be]? = some (.cells #[.pointer (some ⟨b0, o0, none⟩)] 54 (0, 0))
set_option maxRecDepth 100000 in
theorem nwl_any (b0 o0 : Nat) (n : Int) (w : World) : Calls Tryd.prog 35 #[.pointer (some ⟨b0, o0, none⟩), .int .i64 n] w fun e w' =>
    ∃ Bn Be, e = .returned (iterL Bn Be) ∧ IterL w' b0 o0 n Bn Be ∧ Below w.heap.size w w' := by
  go_enter Tryd.func35, Tryd.ntmps35
  go_wp2
  obtain ⟨wl, hwl, hsz, hbl, k1, k2⟩ := box_new2 w #[.pointer (some ⟨b0, o0, none⟩)] #[.int .i64 n] 54 3
  rw [hwl]
  go_ret
  exact ⟨_, _, rfl, ⟨k2, k1⟩, hbl⟩
theorem levels_seq {w wl : World} {C : Nat → Prop} {t : Tm} {b0 o0 : Nat} {n : Int} {Bn Be : Nat} (E : Nat → Prop) (h : IterL w b0 o0 n Bn Be) (hT : TermAt w C t b0 o0) (hn : t.wt ≤ 2097152) (hb : Below w.heap.size w wl) (hC : ∀ b, C b → b < w.heap.size) (hE : ∀ b, E b → b < w.heap.size) :
    SeqE Fence.wide 2 Tryd.prog 59 #[.pointer (some ⟨Bn, 0, none⟩), .pointer (some ⟨Be, 0, none⟩)] encL keyL (GoodL C) C E (walkL t n) wl := by
  intro l J Jx B0 W hbW hCB hB0 hJ hJx hY h0
  have hbb : Below w.heap.size w W := hb.trans (hbW.mono hb.size)
  exact levels_it l Bn Be t b0 o0 n C E B0 W J Jx ((hbb.block _ (Array.getElem?_eq_some_iff.1 h.1).1).trans h.1) ((hbb.block _ (Array.getElem?_eq_some_iff.1 h.2).1).trans h.2) (hT.stays (.of_below hbb)) hn (fun z hz => Nat.lt_of_lt_of_le (hE z hz) hbb.size) (fun b hc => Nat.lt_of_lt_of_le (hC b hc) hbb.size) hCB hB0 hJ hJx hY h0
theorem goodL_loop {C : Nat → Prop} {x : (Tm × Int) × (Nat × Nat)} {Y : Nat → Prop} {A A' : World} {l : Nat} (h : GoodL C x Y A) (hA : Holds (fun b => b = l) A A') (hC : ¬ C l) : GoodL C x Y A' :=
  ⟨h.1.stays ⟨hA.1, fun b hb hlt => hA.2 b hlt (fun e => hC (e ▸ hb))⟩, h.2⟩
theorem not_lv_at {t x : Tm} {n lv : Int} {pre : List (Tm × Int)} (h : pre ++ [(x, lv)] <+: walkL t n) (hx : ¬ LvNode (x, lv)) : ¬ (t.IsT ∧ t.lvOk n) := fun hh =>
  hx ((levels_walk t n).1 hh (x, lv) (h.subset (by simp)))
mutual
theorem wt_walkL : ∀ (t : Tm) (l : Int) (e : Tm × Int), e ∈ walkL t l → e.1.wt ≤ t.wt
  | .mk k a b n t r ts, l, e, h => by
    rw [walkL] at h
    rcases List.mem_cons.1 h with rfl | h
    · exact Nat.le_refl _
    · have h1 := wt_walkLS ts _ e h
      simp only [Tm.wt]
      omega
theorem wt_walkLS : ∀ (ts : List Tm) (l : Int) (e : Tm × Int), e ∈ walkLS ts l → e.1.wt ≤ wtS ts
  | [], l, e, h => by simp [walkLS] at h
  | t :: ts, l, e, h => by
    rw [walkLS] at h
    rcases List.mem_append.1 h with h | h
    · have h1 := wt_walkL t l e h
      simp only [wtS]
      omega
    · have h1 := wt_walkLS ts l e h
      simp only [wtS]
      omega
end
theorem boxAt {w : World} {C : Nat → Prop} {t : Tm} {tp : Option Addr} {tc : Nat} {rp : Option Addr} {rc : Nat} {p : Option Addr} {c b : Nat} {T : TypeId} (hb : w.heap[b]? = some (.cells (tmC t tp tc rp rc p c) T (0, 0))) (hC : C b) (hT : TM' w C t tp tc rp rc p c) : TermAt w C t b 0 :=
  ⟨tp, tc, rp, rc, p, c, hC, (Array.getElem?_eq_some_iff.1 hb).1, ⟨cell_of_blk hb 0, cell_of_blk hb 1, cell_of_blk hb 2, cell_of_blk hb 3, cell_of_blk hb 4, cell_of_blk hb 5, cell_of_blk hb 6, cell_of_blk hb 7, cell_of_blk hb 8⟩, hT⟩
set_option maxRecDepth 100000 in
set_option maxHeartbeats 2000000 in
theorem falI_any {C : Nat → Prop} {t : Tm} {w : World} {b o : Nat} (n : Int) (hka : KA w) (h : TermAt w C t b o) (hn : t.wt ≤ 2097152) :
    Calls Tryd.prog 36 #[.pointer (some ⟨b, o, none⟩), .int .i64 n] w (Tells (LvNode (t, n)) w) := by
  obtain ⟨tp, tc, rp, rc, p, c, hC, hb, ⟨y0, y1, y2, y3, y4, y5, y6, y7, y8⟩, hT⟩ := h
  have HC := Lib.hid (formI_any w hka hT hn)
  clear hT hka hb
  by_cases h0 : n < 0
  · have t1 : decide (0 ≤ n) = false := by simp; omega
    have H0 := Lib.hid h0
    clear h0
    go_enter Tryd.func36, Tryd.ntmps36
    go_wp2_with fail
    go_ret
    exact ⟨false, by simp only [Bool.false_eq_true, false_iff]; exact fun h => (by have h1 := h.1.1; have h2 := H0.out; simp only at h1; omega), rfl, Below.refl _ _⟩
  have t1 : decide (0 ≤ n) = true := by simp; omega
  by_cases h2 : 2 < n
  · have t2 : decide (n ≤ 2) = false := by simp; omega
    have H2 := Lib.hid h2
    clear h0 h2
    go_enter Tryd.func36, Tryd.ntmps36
    go_wp2_with fail
    go_ret
    exact ⟨false, by simp only [Bool.false_eq_true, false_iff]; exact fun h => (by have h1 := h.1.2; have h2 := H2.out; simp only at h1; omega), rfl, Below.refl _ _⟩
  have t2 : decide (n ≤ 2) = true := by simp; omega
  have HN := Lib.hid (show 0 ≤ n ∧ n ≤ 2 from ⟨by omega, by omega⟩)
  clear h0 h2
  go_enter Tryd.func36, Tryd.ntmps36
  go_wp2_with fail
  refine HC.out.mono ?_
  rintro e w1 ⟨r, hr, rfl, hb1⟩
  have HR := Lib.hid hr
  have HB := Lib.hid hb1
  clear hr hb1 y0 y1 y2 y3 y4 y5 y6 y7 y8
  cases r with
  | false =>
    go_wp2_with fail
    go_ret
    exact ⟨false, by simp only [Bool.false_eq_true, false_iff]; exact fun h => (by have := HR.out.2 h.2; cases this), rfl, HB.out⟩
  | true =>
    go_wp2_with fail
    go_ret
    exact ⟨true, ⟨fun _ => ⟨HN.out, HR.out.1 (by trivial)⟩, fun _ => rfl⟩, rfl, HB.out⟩
set_option maxRecDepth 100000 in
set_option maxHeartbeats 2000000 in
theorem sonI_any {C : Nat → Prop} {t : Tm} {w : World} {b o : Nat} (n : Int) (h : TermAt w C t b o) :
    Calls Tryd.prog 40 #[.pointer (some ⟨b, o, none⟩), .int .i64 n] w (Tells (t.kind = 11 ∧ n = 1) w) := by
  obtain ⟨tp, tc, rp, rc, p, c, hC, hb, h9, hT⟩ := h
  have y0 := h9.kind
  clear h9 hT hb
  by_cases h0 : t.kind = 11
  · have t1 : (t.kind == 11) = true := by simp [h0]
    by_cases h1 : n = 1
    · have t2 : (n == 1) = true := by simp [h1]
      have H := Lib.hid (And.intro h0 h1)
      clear h0 h1
      go_enter Tryd.func40, Tryd.ntmps40
      go_wp2_with fail
      go_ret
      exact ⟨true, ⟨fun _ => H.out, fun _ => rfl⟩, rfl, Below.refl _ _⟩
    · have t2 : (n == 1) = false := by simp [h1]
      have H := Lib.hid h1
      clear h0 h1
      go_enter Tryd.func40, Tryd.ntmps40
      go_wp2_with fail
      go_ret
      exact ⟨false, by simp only [Bool.false_eq_true, false_iff]; exact fun h => H.out h.2, rfl, Below.refl _ _⟩
  · have t1 : (t.kind == 11) = false := by simp [h0]
    have H := Lib.hid h0
    clear h0
    go_enter Tryd.func40, Tryd.ntmps40
    go_wp2_with fail
    go_ret
    exact ⟨false, by simp only [Bool.false_eq_true, false_iff]; exact fun h => H.out h.1, rfl, Below.refl _ _⟩

set_option maxRecDepth 100000 in
set_option maxHeartbeats 2000000 in
theorem levI_any {C : Nat → Prop} {t : Tm} {v : Value} {w : World} (n : Int) (hka : KA w) (h : TM w C t v) (hn : t.wt ≤ 2097152) :
    Calls Tryd.prog 13 #[v, .int .i64 n] w (Tells (t.IsT ∧ t.lvOk n) w) := by
  have HKA := Lib.hid (fun (w' : World) (hb : Below w.heap.size w w') => hka.below hb)
  have HWT := Lib.hid hn
  clear hka hn
  obtain ⟨tp, tc, rp, rc, p, c, rfl, hT⟩ := h
  have HT := Lib.hid (hT.mono (C' := (· < w.heap.size)) (fun _ _ h => h))
  clear hT
  refine (callsIn_wide (n := 3)).1 ?_
  refine callsIn_of_wp_marks Tryd.func13 rfl trivial ?_ rfl
  simp only [Tryd.ntmps13, List.size_toArray, List.length_cons, List.length_nil, Nat.reduceAdd, Nat.reduceSub, Array.replicate_succ, Array.replicate_zero, List.push_toArray, List.append_toArray, List.nil_append, List.cons_append]
  gi_wp2_with fail
  obtain ⟨w0, hw0, hs0, hb0, hk0, hk1⟩ := box_new2 w (tmC t tp tc rp rc p c) #[.bool false] 35 4
  rw [hw0]
  refine ⟨trivial, ?_⟩
  refine (callsIn_wide.2 (nwl_any w.heap.size 0 n w0)).mono ?_
  rintro e wl ⟨Bn, Be, rfl, hI, hbw⟩
  have hsz := hbw.size
  have hbl : Below w.heap.size w wl := hb0.trans (hbw.mono hb0.size)
  have k1 : wl.heap[w.heap.size + 1]? = some (.cells #[.bool false] 4 (0, 0)) := (hbw.block _ (by omega)).trans hk1
  have HSL : TermAt wl (fun z => z < w.heap.size + 1) t w.heap.size 0 := boxAt ((hbw.block _ (by omega)).trans hk0) (by omega) ((HT.out.stays (.of_below hbl)).mono (fun z hz _ => by omega))
  clear hk0 hk1 hb0 hw0
  gi_wp2_with fail
  refine rangeE_law (E := fun _ => False) (F := Fence.wide) (n := 3) rfl (by omega) (gf := 59) (lb := #[.pointer (some ⟨Bn, 0, none⟩), .pointer (some ⟨Be, 0, none⟩)]) rfl trivial (enters_of Tryd.func59 (by kernel_rfl) rfl)
    (B0 := fun b => b = w.heap.size + 1) (levels_seq (fun _ => False) hI HSL HWT.out (Below.refl _ _) (fun b h => by omega) (fun _ h => h.elim)) (fun _ h => h.elim) (fun _ => rfl) (fun b h h2 => by omega) (fun b h => by omega) (fun b h => by omega)
    (fun pre B N W => (∀ z, B z ↔ z = w.heap.size + 1) ∧ (∀ z, ¬ N z) ∧ W.heap[w.heap.size + 1]? = some (.cells #[.bool false] 4 (0, 0)) ∧ (∀ e ∈ pre, LvNode e) ∧ Below w.heap.size w W)
    (fun j pre B N W => (∀ z, B z ↔ z = w.heap.size + 1) ∧ j = .ret ∧ W.cell? ⟨w.heap.size + 1, 0, none⟩ = some (.bool false) ∧ ¬ (t.IsT ∧ t.lvOk n) ∧ Below w.heap.size w W)
    (fun pre B N A A' h hk => ⟨h.1, h.2.1, (hk.1.block _ (by omega)).trans h.2.2.1, h.2.2.2.1, h.2.2.2.2.trans (hk.1.mono (by omega))⟩)
    (fun j pre B N A A' h hk => ⟨h.1, h.2.1, (hk.1.cell (by show w.heap.size + 1 < _; omega)).trans h.2.2.1, h.2.2.2.1, h.2.2.2.2.trans (hk.1.mono (by omega))⟩)
    (fun x Y A A' l r hl hg hr hA => goodL_loop hg hA (by omega)) (fun pre B N A h z hz => by rw [(h.1 z).1 hz]; exact (Array.getElem?_eq_some_iff.1 h.2.2.1).1) (fun x Y A z hg hz => absurd hz (hg.2 z)) ⟨fun _ => Iff.rfl, fun _ h => h, k1, (fun e he => absurd he (List.not_mem_nil)), hbl⟩
    (fun x s a' W => a' = { tmps := #[tmV t tp tc rp rc p c, .int .i64 n, .pointer (some ⟨w.heap.size, 0, none⟩), undef, .pointer (some ⟨w.heap.size + 1, 0, none⟩), .pointer (some ⟨x.2.1, x.2.2, none⟩), .int .i64 x.1.2,
      .int .i64 n, iterL Bn Be, .pointer (some ⟨x.2.1, x.2.2, none⟩), .int .i64 x.1.2, undef, undef, undef, undef], defers := [] })
    (fun x s a' W l r o h hl => h) ?assign ?body ?done ?stop
  case assign =>
    rintro l ⟨⟨x, lv⟩, ⟨b1, o1⟩⟩ Y W K hG hK
    have HK := Lib.hid hK
    clear hK
    gi_wp2
    exact HK.out _ _ (Below.refl _ _) (by simp)
  case body =>
    rintro l pre ⟨⟨x, lv⟩, ⟨b1, o1⟩⟩ s a' Y B N W ⟨hBo, hNo, hr, hso, hB⟩ hpre hG hYB hs rfl hlp hBl
    have hpre : pre ++ [(x, lv)] <+: walkL t n := hpre
    have hG' : TermAt W (fun z => z < w.heap.size + 1) x b1 o1 := hG.1
    have hxw : x.wt ≤ 2097152 := by
      have h1 := wt_walkL t n (x, lv) (hpre.subset (by simp))
      have h2 := HWT.out
      simp only at h1
      omega
    have HC := Lib.hid (falI_any lv (HKA.out W hB) hG' hxw)
    have HG := Lib.hid hG'
    have HR1 := Lib.hid hr
    have HB1 := Lib.hid hB
    have HSO := Lib.hid hso
    have HP := Lib.hid hpre
    have HBO := Lib.hid hBo
    have HFIN := Lib.hid (fun (W' : World) (hb : Below W.heap.size W W') => show W'.heap[w.heap.size + 1]? = some (.cells #[.bool false] 4 (0, 0)) from (hb.block _ (Array.getElem?_eq_some_iff.1 hr).1).trans hr)
    have hstop : ¬ LvNode (x, lv) → ∀ (W' : World) (q : World), Below W.heap.size W W' → q = W'.setCell ⟨w.heap.size + 1, 0, none⟩ (.bool false) → ∃ B' N' : Nat → Prop, Grew B B' W.heap.size q.heap.size ∧ (∀ z, N' z → N z ∨ Y z) ∧ Holds (fun z => B z ∨ False) W q ∧ (∀ z, B' z ↔ z = w.heap.size + 1) ∧ q.cell? ⟨w.heap.size + 1, 0, none⟩ = some (.bool false) ∧ ¬ (t.IsT ∧ t.lvOk n) ∧ Below w.heap.size w q := by
      rintro hno W' q hb rfl
      have hr2 := HFIN.out W' hb
      have r2 := cell_of_blk hr2 0
      simp only [List.getElem?_toArray, List.getElem?_cons_zero] at r2
      have hlt := (Array.getElem?_eq_some_iff.1 hr2).1
      refine ⟨B, fun _ => False, Grew.refl (fun b hb' => ?_), fun z hz => hz.elim, Holds.setCell (.of_below hb) ⟨w.heap.size + 1, 0, none⟩ (Or.inl ((hBo _).2 rfl)) _, hBo, World.cell?_setCell_same' W' ⟨w.heap.size + 1, 0, none⟩ (.bool false) (by rw [r2]; rfl), not_lv_at hpre hno, (hB.trans (hb.mono hB.size)).setCell (p := ⟨w.heap.size + 1, 0, none⟩) (by show w.heap.size ≤ w.heap.size + 1; omega) _⟩
      rw [(hBo b).1 hb']
      simpa [World.setCell] using hlt
    have hgo : LvNode (x, lv) → ∀ (W' : World), Below W.heap.size W W' → ∃ B' N' : Nat → Prop, Grew B B' W.heap.size W'.heap.size ∧ (∀ z, N' z → N z ∨ Y z) ∧ Holds B W W' ∧ (∀ z, B' z ↔ z = w.heap.size + 1) ∧ (∀ z, ¬ N' z) ∧ W'.heap[w.heap.size + 1]? = some (.cells #[.bool false] 4 (0, 0)) ∧ (∀ e ∈ pre ++ [(x, lv)], LvNode e) ∧ Below w.heap.size w W' := by
      intro hx W' hb
      have hr2 := HFIN.out W' hb
      refine ⟨B, fun _ => False, Grew.refl (fun b hb' => ?_), fun z hz => hz.elim, .of_below hb, hBo, fun _ h => h, hr2, fun e he => ?_, hB.trans (hb.mono hB.size)⟩
      · rw [(hBo b).1 hb']
        exact (Array.getElem?_eq_some_iff.1 hr2).1
      · rcases List.mem_append.1 he with he | he
        · exact hso e he
        · simp only [List.mem_singleton] at he
          subst he
          exact hx
    have HSTOP := Lib.hid hstop
    have HGO := Lib.hid hgo
    clear hso hpre hr hB k1 hG' HSL hbl hbw hI hxw hBo hNo hYB hs hlp hBl hG hstop hgo
    gi_wp2_with fail
    refine ⟨trivial, ?_⟩
    refine (CallsIn.inRound l (callsIn_wide.2 HC.out)).mono ?_
    rintro e W2 ⟨b, hb, rfl, hb2⟩
    have HBB := Lib.hid hb
    have HB2 := Lib.hid hb2
    have hr2 := HFIN.out W2 hb2
    have r3 := cell_of_blk hr2 0
    have rz3 := unfrozen_of_blk hr2 0
    simp only [List.getElem?_toArray, List.getElem?_cons_zero] at r3
    clear hb hb2 hr2
    cases b with
    | false =>
      gi_wp2_with fail
      obtain ⟨B', N', h1, h2, h3, h4, h5, h6, h7⟩ := HSTOP.out (fun h => by have := HBB.out.2 h; cases this) W2 _ HB2.out rfl
      exact ⟨B', N', h1, h2, h3, h4, rfl, h5, h6, h7⟩
    | true =>
      gi_wp2_with fail
      exact HGO.out (HBB.out.1 (by trivial)) W2 HB2.out
  case done =>
    rintro D B N W hD hne ⟨hBo, hNo, hr, hso, hB⟩ hK
    have r0 := cell_of_blk hr 0
    have rz := unfrozen_of_blk hr 0
    simp only [List.getElem?_toArray, List.getElem?_cons_zero] at r0
    have HV := Lib.hid ((levels_walk t n).2 hso)
    have HB := Lib.hid hB
    have hK' : (W.setCell ⟨w.heap.size + 1, 0, none⟩ (.bool true)).heap[D]? = some (.deferred (some [])) := (Below.heap_setCell _ _ _ _ (by show D ≠ w.heap.size + 1; omega)).trans hK
    clear hso hB hr hK k1 HSL hbl hbw hI hBo hNo hne
    gi_wp2_with fail
    refine ⟨by simp, .inl ⟨_, _, rfl, run_takeDeferred hK', ?_⟩⟩
    have hc := (World.cell?_of_block (a := ⟨w.heap.size + 1, 0, none⟩) (w' := (W.setCell ⟨w.heap.size + 1, 0, none⟩ (.bool true)).putObj D (.deferred none)) (World.putObj_heap_other (by show w.heap.size + 1 ≠ D; omega))).trans (World.cell?_setCell_same' W ⟨w.heap.size + 1, 0, none⟩ (.bool true) (by rw [r0]; rfl))
    refine ⟨.bool true, ?_, _, ⟨fun _ => HV.out, fun _ => rfl⟩, rfl, (HB.out.setCell (p := ⟨w.heap.size + 1, 0, none⟩) (by show w.heap.size ≤ w.heap.size + 1; omega) _).trans (below_putObj _ _ _ _ (by omega))⟩
    rw [results_cell1 rfl]
    go_simp
  case stop =>
    rintro D c pre B N W hD hne hpre ⟨hBo, rfl, hr, hv, hB⟩ hK
    have HB := Lib.hid hB
    have HV := Lib.hid hv
    clear hv hB k1 HSL hbl hbw hI hBo hne
    gi_wp2_with fail
    refine ⟨by simp, .inl ⟨_, _, rfl, run_takeDeferred hK, ?_⟩⟩
    have hc := (World.cell?_of_block (a := ⟨w.heap.size + 1, 0, none⟩) (w' := W.putObj D (.deferred none)) (World.putObj_heap_other (by show w.heap.size + 1 ≠ D; omega))).trans hr
    refine ⟨.bool false, ?_, _, ⟨fun h => by simp at h, fun h => absurd h HV.out⟩, rfl, HB.out.trans (below_putObj _ _ _ _ (by omega))⟩
    rw [results_cell1 rfl]
    go_simp
end Go.Proofs.YtfeijijeohfpgaaDoor
namespace Go.Proofs.YtfeijijeohfpgaaDoor
open Go Go.RowKit

set_option maxRecDepth 100000 in
set_option maxHeartbeats 2000000 in
theorem lawLevelsOk {C : Nat → Prop} (t : Tm) (v : Value) (n : Int) (w : World) (hka : KA w) (h : TM w C t v) (hf : t.fit) :
    Calls Tryd.prog 3 #[v, .int .i64 n] w fun e w' => e = .returned (.bool true) ∧ Below w.heap.size w w' := by
  have HKA := Lib.hid (fun (w' : World) (hb : Below w.heap.size w w') => hka.below hb)
  clear hka
  have HT := Lib.hid (fun w' (hb : Below w.heap.size w w') => h.keep hb)
  obtain ⟨tp, tc, rp, rc, p, c, rfl, _⟩ := h
  have HB0 := Lib.hid (al_below w (.cells (tmC t tp tc rp rc p c) 27))
  have HX0 := Lib.hid (Bx9.new w t tp tc rp rc p c 27)
  go_enter Tryd.func3, Tryd.ntmps3
  go_wp2_with fail
  refine (szM_any (HT.out _ HB0.out) hf 1048576 (by omega) (by omega)).mono ?_
  rintro e w1 ⟨r, hr, rfl, hb1⟩
  have HX1 := Lib.hid (HX0.out.keep hb1)
  have HB1 := Lib.hid (HB0.out.trans (hb1.mono HB0.out.size))
  have HR := Lib.hid hr
  clear hr hb1
  by_cases h0 : r < 0
  · go_wp2_with fail
    go_ret
    exact ⟨rfl, HB1.out⟩
  have hn : t.wt ≤ 1048576 := by have := HR.out; unfold SzEnds at this; omega
  have hn2 : t.wt ≤ 2097152 := by omega
  obtain ⟨g0, g1, g2, g3, g4, g5, g6, g7, g8⟩ := HX1.out
  go_wp2_with fail
  refine (toM_any (HT.out _ HB1.out) hn).mono ?_
  rintro e w2 ⟨v1, rfl, ho1, hb2⟩
  have HO1 := Lib.hid ho1
  have HB2 := Lib.hid (HB1.out.trans (hb2.mono HB1.out.size))
  have HX2 := Lib.hid (HX1.out.keep hb2)
  clear ho1 hb2 g0 g1 g2 g3 g4 g5 g6 g7 g8
  go_wp2_with fail
  refine (levS_at n HO1.out.tm hn2).mono ?_
  rintro e w3 ⟨r1, hr1, rfl, hb3⟩
  have HB3 := Lib.hid (HB2.out.trans (hb3.mono HB2.out.size))
  have HX3 := Lib.hid (HX2.out.keep hb3)
  have HR1 := Lib.hid hr1
  clear hb3 hr1
  obtain ⟨g0, g1, g2, g3, g4, g5, g6, g7, g8⟩ := HX3.out
  go_wp2_with fail
  refine (toM_any (HT.out _ HB3.out) hn).mono ?_
  rintro e w4 ⟨v2, rfl, ho2, hb4⟩
  have HY := Lib.hid (fun w' (hb : Below w4.heap.size w4 w') => ho2.tm.keep hb)
  obtain ⟨tp2, tc2, rp2, rc2, p2, c2, rfl, _⟩ := ho2
  have HB4 := Lib.hid (HB3.out.trans (hb4.mono HB3.out.size))
  have HX4 := Lib.hid (HX3.out.keep hb4)
  have HBX := Lib.hid (al_below w4 (.cells (tmC t tp2 tc2 rp2 rc2 p2 c2) 35))
  have HZ4 := Lib.hid (Bx9.new w4 t tp2 tc2 rp2 rc2 p2 c2 35)
  clear hb4 g0 g1 g2 g3 g4 g5 g6 g7 g8
  go_wp2_with fail
  refine (levI_any n (HKA.out _ (HB4.out.trans (HBX.out.mono HB4.out.size))) (HY.out _ HBX.out) hn2).mono ?_
  rintro e w5 ⟨r2, hr2, rfl, hb5⟩
  have HZ5 := Lib.hid (HZ4.out.keep hb5)
  have hbb := below_box hb5
  have HB5 := Lib.hid (HB4.out.trans (hbb.mono HB4.out.size))
  have HX5 := Lib.hid (HX4.out.keep hbb)
  have HXB := Lib.hid hbb
  obtain rfl : r2 = r1 := by first | exact hr2.trans HR1.out.symm | exact Bool.eq_iff_iff.2 (hr2.trans HR1.out.symm)
  clear hb5 hbb hr2 HR1
  obtain ⟨g0, g1, g2, g3, g4, g5, g6, g7, g8⟩ := HX5.out
  obtain ⟨d0, d1, d2, d3, d4, d5, d6, d7, d8⟩ := HZ5.out
  go_wp2_with fail
  go_region_held3 (fun w' => w'.cell? ⟨w.heap.size, 0, none⟩ = some (.int .i64 t.kind) ∧ w'.cell? ⟨w.heap.size, 1, none⟩ = some (.string t.name) ∧ w'.cell? ⟨w.heap.size, 2, none⟩ = some (.string t.other) ∧ w'.cell? ⟨w.heap.size, 3, none⟩ = some (.int .i64 t.n) ∧ w'.cell? ⟨w.heap.size, 4, none⟩ = some (.int .i64 t.ty.kind) ∧ w'.cell? ⟨w.heap.size, 5, none⟩ = some (.slice tp t.ty.args.length tc) ∧ w'.cell? ⟨w.heap.size, 6, none⟩ = some (.int .i64 t.res.kind) ∧ w'.cell? ⟨w.heap.size, 7, none⟩ = some (.slice rp t.res.args.length rc) ∧ w'.cell? ⟨w.heap.size, 8, none⟩ = some (.slice p t.args.length c) ∧ w'.cell? ⟨w4.heap.size, 0, none⟩ = some (.int .i64 t.kind) ∧ w'.cell? ⟨w4.heap.size, 1, none⟩ = some (.string t.name) ∧ w'.cell? ⟨w4.heap.size, 2, none⟩ = some (.string t.other) ∧ w'.cell? ⟨w4.heap.size, 3, none⟩ = some (.int .i64 t.n) ∧ w'.cell? ⟨w4.heap.size, 4, none⟩ = some (.int .i64 t.ty.kind) ∧ w'.cell? ⟨w4.heap.size, 5, none⟩ = some (.slice tp2 t.ty.args.length tc2) ∧ w'.cell? ⟨w4.heap.size, 6, none⟩ = some (.int .i64 t.res.kind) ∧ w'.cell? ⟨w4.heap.size, 7, none⟩ = some (.slice rp2 t.res.args.length rc2) ∧ w'.cell? ⟨w4.heap.size, 8, none⟩ = some (.slice p2 t.args.length c2) ∧ Below w5.heap.size w5 w')
    (first
      | (go_keep; done)
      | exact ⟨g0, g1, g2, g3, g4, g5, g6, g7, g8, d0, d1, d2, d3, d4, d5, d6, d7, d8, (Below.refl _ _).drew⟩
      | exact keep18 hb7 (by assumption)
      | exact keep18 hb6 (by assumption))
    (first
      | (go_at_call 12; refine (toM_any (HT.out _ (HB5.out.trans (((Below.refl _ _).drew).mono HB5.out.size))) hn).mono ?_; rintro e w6 ⟨v3, rfl, ho3, hb6⟩)
      | (go_at_call 14; refine (eqM_any (HY.out _ (HXB.out.trans (((Below.refl _ _).drew.trans hb6).mono HXB.out.size))) ho3.tm).mono ?_; rintro e w7 ⟨b7, he7, rfl, hb7⟩))
  rename_i hH
  have HBL := Lib.hid (HB5.out.trans (hH.2.2.2.2.2.2.2.2.2.2.2.2.2.2.2.2.2.2.mono HB5.out.size))
  obtain rfl : b7 = true := by simpa using he7
  clear hH
  go_wp2_with fail
  go_ret
  exact ⟨rfl, HBL.out⟩
end Go.Proofs.YtfeijijeohfpgaaDoor
namespace Go.Proofs.YtfeijijeohfpgaaDoor
open Go Go.ChangeShapes Go.WideShapes Go.ChangeAt Go.RowKit

section
variable {H : Type} {enc : TypeId × Value → H} {P : Program}
theorem trodAll_below (hl : laidOutB P = true) {W W' : World} (hb : Below W.heap.size W W') : ∀ (ts : List TypeId) (vs : List Value) (ds : List (DataW H)) (ps : List MemPlace),
    (∀ t ∈ ts, P.readableRec t = true ∧ t < P.types.size) → DataW.TrodAll enc P W 0 (fun _ => true) true ts vs ds ps → (∀ x ∈ ps, x.block < W.heap.size) →
    DataW.TrodAll enc P W' 0 (fun b => decide (b < W.heap.size)) true ts vs ds ps
  | [], [], [], _, _, h, _ => h
  | t :: ts, v :: vs, d :: ds, ps, hr, h, hlt => by
    obtain ⟨p, q, h1, h2, rfl⟩ := h
    have ht := hr t (List.mem_cons_self ..)
    exact ⟨p, q, Below.trod hl ht.1 ht.2 h1 hb (fun x hx => hlt x (List.mem_append_left _ hx)), trodAll_below hl hb ts vs ds q (fun u hu => hr u (List.mem_cons_of_mem _ hu)) h2 (fun x hx => hlt x (List.mem_append_right _ hx)), rfl⟩
  | [], _ :: _, _, _, _, h, _ => h.elim
  | [], [], _ :: _, _, _, h, _ => h.elim
  | _ :: _, [], _, _, _, h, _ => h.elim
  | _ :: _, _ :: _, [], _, _, h, _ => h.elim

end
end Go.Proofs.YtfeijijeohfpgaaDoor
namespace Go.Proofs.YtfeijijeohfpgaaDoor
open Go Go.ChangeShapes Go.WideShapes Go.ChangeAt Go.RowKit

section
variable {H : Type} {enc : TypeId × Value → H} {P : Program}

theorem law_postV {f : Func} {s : ChangeSpec} {W W' : World} {args : Array Value} {ds gs : List (DataW H)} {before : List MemPlace} {tb : TypeId} (hl : laidOutB P = true)
    (hts : (f.params.toList.all fun t => P.readableRec t && decide (t < P.types.size)) = true) (hbool : P.underlying tb = some .bool) (hres : f.resultTypes = #[tb]) (hvars : varsRowed P s.vars = true)
    (hW : DataW.Whole enc P f.params.toList s.vars false W args.toList ds gs before) (hr : (s.fn H (ds ++ gs)).results = [.lit (.bool true)]) (ha : (s.fn H (ds ++ gs)).args = ds) (hv : (s.fn H (ds ++ gs)).vars = gs)
    (hb : Below W.heap.size W W') : s.post enc P f false true false false W args (.bool true) W' := by
  have hW0 := hW
  obtain ⟨p, q, hA, hV, rfl, hfz, _⟩ := hW
  have hlt : ∀ x ∈ p, x.block < W.heap.size := fun x hx => hW0.lt x (List.mem_append_left _ hx)
  refine ⟨ds, gs, p ++ q, [], p, q, hW0, ?_, ?_, ?_, hb.frame _, fun h => by cases h⟩
  · rw [hr, hres]
    exact trodAll_mk1 (shut_bool hbool _)
  · rw [ha]
    refine trodAll_below hl hb _ _ _ _ (fun t ht => ?_) hA hlt
    have := List.all_eq_true.1 hts t ht
    simp only [Bool.and_eq_true, decide_eq_true_eq] at this
    exact this
  · rw [hv]
    exact Below.trodVars hl hb hvars hV
end
end Go.Proofs.YtfeijijeohfpgaaDoor
namespace Go.Proofs.YtfeijijeohfpgaaDoor
open Go Go.RowKit Go.Shelf
attribute [local go_sem] Oper.semAt_some
def GenNode (e : Tm × Int) : Prop := LvNode e ∧ ¬ (e.1.kind = 11 ∧ e.2 = 1)
theorem gen_walk (t : Tm) (l : Int) : ((t.IsT ∧ t.lvOk l) ∧ t.made l) ↔ ∀ e ∈ walkL t l, GenNode e := by
  rw [levels_walk, made_walk]
  exact ⟨fun h e he => ⟨h.1 e he, h.2 e he⟩, fun h => ⟨fun e he => (h e he).1, fun e he => (h e he).2⟩⟩
theorem not_gen_at {t x : Tm} {n lv : Int} {pre : List (Tm × Int)} (h : pre ++ [(x, lv)] <+: walkL t n) (hx : ¬ GenNode (x, lv)) : ¬ ((t.IsT ∧ t.lvOk n) ∧ t.made n) := fun hh =>
  hx ((gen_walk t n).1 hh (x, lv) (h.subset (by simp)))

set_option maxRecDepth 100000 in
set_option maxHeartbeats 2000000 in
theorem genI_any {C : Nat → Prop} {t : Tm} {v : Value} {w : World} (n : Int) (hka : KA w) (h : TM w C t v) (hn : t.wt ≤ 2097152) :
    Calls Tryd.prog 16 #[v, .int .i64 n] w (Tells ((t.IsT ∧ t.lvOk n) ∧ t.made n) w) := by
  have HKA := Lib.hid (fun (w' : World) (hb : Below w.heap.size w w') => hka.below hb)
  have HWT := Lib.hid hn
  clear hka hn
  obtain ⟨tp, tc, rp, rc, p, c, rfl, hT⟩ := h
  have HT := Lib.hid (hT.mono (C' := (· < w.heap.size)) (fun _ _ h => h))
  clear hT
  refine (callsIn_wide (n := 3)).1 ?_
  refine callsIn_of_wp_marks Tryd.func16 rfl trivial ?_ rfl
  simp only [Tryd.ntmps16, List.size_toArray, List.length_cons, List.length_nil, Nat.reduceAdd, Nat.reduceSub, Array.replicate_succ, Array.replicate_zero, List.push_toArray, List.append_toArray, List.nil_append, List.cons_append]
  gi_wp2_with fail
  obtain ⟨w0, hw0, hs0, hb0, hk0, hk1⟩ := box_new2 w (tmC t tp tc rp rc p c) #[.bool false] 35 4
  rw [hw0]
  refine ⟨trivial, ?_⟩
  refine (callsIn_wide.2 (nwl_any w.heap.size 0 n w0)).mono ?_
  rintro e wl ⟨Bn, Be, rfl, hI, hbw⟩
  have hsz := hbw.size
  have hbl : Below w.heap.size w wl := hb0.trans (hbw.mono hb0.size)
  have k1 : wl.heap[w.heap.size + 1]? = some (.cells #[.bool false] 4 (0, 0)) := (hbw.block _ (by omega)).trans hk1
  have HSL : TermAt wl (fun z => z < w.heap.size + 1) t w.heap.size 0 := boxAt ((hbw.block _ (by omega)).trans hk0) (by omega) ((HT.out.stays (.of_below hbl)).mono (fun z hz _ => by omega))
  clear hk0 hk1 hb0 hw0
  gi_wp2_with fail
  refine rangeE_law (E := fun _ => False) (F := Fence.wide) (n := 3) rfl (by omega) (gf := 59) (lb := #[.pointer (some ⟨Bn, 0, none⟩), .pointer (some ⟨Be, 0, none⟩)]) rfl trivial (enters_of Tryd.func59 (by kernel_rfl) rfl)
    (B0 := fun b => b = w.heap.size + 1) (levels_seq (fun _ => False) hI HSL HWT.out (Below.refl _ _) (fun b h => by omega) (fun _ h => h.elim)) (fun _ h => h.elim) (fun _ => rfl) (fun b h h2 => by omega) (fun b h => by omega) (fun b h => by omega)
    (fun pre B N W => (∀ z, B z ↔ z = w.heap.size + 1) ∧ (∀ z, ¬ N z) ∧ W.heap[w.heap.size + 1]? = some (.cells #[.bool false] 4 (0, 0)) ∧ (∀ e ∈ pre, GenNode e) ∧ Below w.heap.size w W)
    (fun j pre B N W => (∀ z, B z ↔ z = w.heap.size + 1) ∧ j = .ret ∧ W.cell? ⟨w.heap.size + 1, 0, none⟩ = some (.bool false) ∧ ¬ ((t.IsT ∧ t.lvOk n) ∧ t.made n) ∧ Below w.heap.size w W)
    (fun pre B N A A' h hk => ⟨h.1, h.2.1, (hk.1.block _ (by omega)).trans h.2.2.1, h.2.2.2.1, h.2.2.2.2.trans (hk.1.mono (by omega))⟩)
    (fun j pre B N A A' h hk => ⟨h.1, h.2.1, (hk.1.cell (by show w.heap.size + 1 < _; omega)).trans h.2.2.1, h.2.2.2.1, h.2.2.2.2.trans (hk.1.mono (by omega))⟩)
    (fun x Y A A' l r hl hg hr hA => goodL_loop hg hA (by omega)) (fun pre B N A h z hz => by rw [(h.1 z).1 hz]; exact (Array.getElem?_eq_some_iff.1 h.2.2.1).1) (fun x Y A z hg hz => absurd hz (hg.2 z)) ⟨fun _ => Iff.rfl, fun _ h => h, k1, (fun e he => absurd he (List.not_mem_nil)), hbl⟩
    (fun x s a' W => a' = { tmps := #[tmV t tp tc rp rc p c, .int .i64 n, .pointer (some ⟨w.heap.size, 0, none⟩), undef, .pointer (some ⟨w.heap.size + 1, 0, none⟩), .pointer (some ⟨x.2.1, x.2.2, none⟩), .int .i64 x.1.2,
      .int .i64 n, iterL Bn Be, .pointer (some ⟨x.2.1, x.2.2, none⟩), .int .i64 x.1.2, undef, undef, undef, undef, undef, undef, undef, undef, undef], defers := [] })
    (fun x s a' W l r o h hl => h) ?assign ?body ?done ?stop
  case assign =>
    rintro l ⟨⟨x, lv⟩, ⟨b1, o1⟩⟩ Y W K hG hK
    have HK := Lib.hid hK
    clear hK
    gi_wp2
    exact HK.out _ _ (Below.refl _ _) (by simp)
  case body =>
    rintro l pre ⟨⟨x, lv⟩, ⟨b1, o1⟩⟩ s a' Y B N W ⟨hBo, hNo, hr, hso, hB⟩ hpre hG hYB hs rfl hlp hBl
    have hpre : pre ++ [(x, lv)] <+: walkL t n := hpre
    have hG' : TermAt W (fun z => z < w.heap.size + 1) x b1 o1 := hG.1
    have hxw : x.wt ≤ 2097152 := by
      have h1 := wt_walkL t n (x, lv) (hpre.subset (by simp))
      have h2 := HWT.out
      simp only at h1
      omega
    have HC := Lib.hid (falI_any lv (HKA.out W hB) hG' hxw)
    have HG := Lib.hid hG'
    have HR1 := Lib.hid hr
    have HB1 := Lib.hid hB
    have HSO := Lib.hid hso
    have HP := Lib.hid hpre
    have HBO := Lib.hid hBo
    have HFIN := Lib.hid (fun (W' : World) (hb : Below W.heap.size W W') => show W'.heap[w.heap.size + 1]? = some (.cells #[.bool false] 4 (0, 0)) from (hb.block _ (Array.getElem?_eq_some_iff.1 hr).1).trans hr)
    have hstop : ¬ GenNode (x, lv) → ∀ (W' : World) (q : World), Below W.heap.size W W' → q = W'.setCell ⟨w.heap.size + 1, 0, none⟩ (.bool false) → ∃ B' N' : Nat → Prop, Grew B B' W.heap.size q.heap.size ∧ (∀ z, N' z → N z ∨ Y z) ∧ Holds (fun z => B z ∨ False) W q ∧ (∀ z, B' z ↔ z = w.heap.size + 1) ∧ q.cell? ⟨w.heap.size + 1, 0, none⟩ = some (.bool false) ∧ ¬ ((t.IsT ∧ t.lvOk n) ∧ t.made n) ∧ Below w.heap.size w q := by
      rintro hno W' q hb rfl
      have hr2 := HFIN.out W' hb
      have r2 := cell_of_blk hr2 0
      simp only [List.getElem?_toArray, List.getElem?_cons_zero] at r2
      have hlt := (Array.getElem?_eq_some_iff.1 hr2).1
      refine ⟨B, fun _ => False, Grew.refl (fun b hb' => ?_), fun z hz => hz.elim, Holds.setCell (.of_below hb) ⟨w.heap.size + 1, 0, none⟩ (Or.inl ((hBo _).2 rfl)) _, hBo, World.cell?_setCell_same' W' ⟨w.heap.size + 1, 0, none⟩ (.bool false) (by rw [r2]; rfl), not_gen_at hpre hno, (hB.trans (hb.mono hB.size)).setCell (p := ⟨w.heap.size + 1, 0, none⟩) (by show w.heap.size ≤ w.heap.size + 1; omega) _⟩
      rw [(hBo b).1 hb']
      simpa [World.setCell] using hlt
    have hgo : GenNode (x, lv) → ∀ (W' : World), Below W.heap.size W W' → ∃ B' N' : Nat → Prop, Grew B B' W.heap.size W'.heap.size ∧ (∀ z, N' z → N z ∨ Y z) ∧ Holds B W W' ∧ (∀ z, B' z ↔ z = w.heap.size + 1) ∧ (∀ z, ¬ N' z) ∧ W'.heap[w.heap.size + 1]? = some (.cells #[.bool false] 4 (0, 0)) ∧ (∀ e ∈ pre ++ [(x, lv)], GenNode e) ∧ Below w.heap.size w W' := by
      intro hx W' hb
      have hr2 := HFIN.out W' hb
      refine ⟨B, fun _ => False, Grew.refl (fun b hb' => ?_), fun z hz => hz.elim, .of_below hb, hBo, fun _ h => h, hr2, fun e he => ?_, hB.trans (hb.mono hB.size)⟩
      · rw [(hBo b).1 hb']
        exact (Array.getElem?_eq_some_iff.1 hr2).1
      · rcases List.mem_append.1 he with he | he
        · exact hso e he
        · simp only [List.mem_singleton] at he
          subst he
          exact hx
    have HSTOP := Lib.hid hstop
    have HGO := Lib.hid hgo
    clear hso hpre hr hB k1 hG' HSL hbl hbw hI hxw hBo hNo hYB hs hlp hBl hG hstop hgo
    gi_wp2_with fail
    refine ⟨trivial, ?_⟩
    refine (CallsIn.inRound l (callsIn_wide.2 HC.out)).mono ?_
    rintro e W2 ⟨b, hb, rfl, hb2⟩
    have HBB := Lib.hid hb
    have HB2 := Lib.hid hb2
    have hr2 := HFIN.out W2 hb2
    have r3 := cell_of_blk hr2 0
    have rz3 := unfrozen_of_blk hr2 0
    simp only [List.getElem?_toArray, List.getElem?_cons_zero] at r3
    clear hb hb2 hr2
    cases b with
    | false =>
      gi_wp2_with fail
      refine ⟨trivial, ?_⟩
      gi_wp2_with fail
      obtain ⟨B', N', h1, h2, h3, h4, h5, h6, h7⟩ := HSTOP.out (fun h => by have := HBB.out.2 h.1; cases this) W2 _ HB2.out rfl
      exact ⟨B', N', h1, h2, h3, h4, rfl, h5, h6, h7⟩
    | true =>
      gi_wp2_with fail
      refine ⟨trivial, ?_⟩
      refine (CallsIn.inRound l (callsIn_wide.2 (sonI_any lv (HG.out.stays (.of_below HB2.out))))).mono ?_
      rintro e W3 ⟨q, hq, rfl, hb3⟩
      have HQ := Lib.hid hq
      have HB3 := Lib.hid (HB2.out.trans (hb3.mono HB2.out.size))
      have hr3 := HFIN.out W3 HB3.out
      have r4 := cell_of_blk hr3 0
      have rz4 := unfrozen_of_blk hr3 0
      simp only [List.getElem?_toArray, List.getElem?_cons_zero] at r4
      clear hq hb3 r3 rz3 hr3
      cases q with
      | true =>
        gi_wp2_with fail
        obtain ⟨B', N', h1, h2, h3, h4, h5, h6, h7⟩ := HSTOP.out (fun h => h.2 (HQ.out.1 (by trivial))) W3 _ HB3.out rfl
        exact ⟨B', N', h1, h2, h3, h4, rfl, h5, h6, h7⟩
      | false =>
        gi_wp2_with fail
        exact HGO.out ⟨HBB.out.1 (by trivial), fun h => by have := HQ.out.2 h; cases this⟩ W3 HB3.out
  case done =>
    rintro D B N W hD hne ⟨hBo, hNo, hr, hso, hB⟩ hK
    have r0 := cell_of_blk hr 0
    have rz := unfrozen_of_blk hr 0
    simp only [List.getElem?_toArray, List.getElem?_cons_zero] at r0
    have HV := Lib.hid ((gen_walk t n).2 hso)
    have HB := Lib.hid hB
    have hK' : (W.setCell ⟨w.heap.size + 1, 0, none⟩ (.bool true)).heap[D]? = some (.deferred (some [])) := (Below.heap_setCell _ _ _ _ (by show D ≠ w.heap.size + 1; omega)).trans hK
    clear hso hB hr hK k1 HSL hbl hbw hI hBo hNo hne
    gi_wp2_with fail
    refine ⟨by simp, .inl ⟨_, _, rfl, run_takeDeferred hK', ?_⟩⟩
    have hc := (World.cell?_of_block (a := ⟨w.heap.size + 1, 0, none⟩) (w' := (W.setCell ⟨w.heap.size + 1, 0, none⟩ (.bool true)).putObj D (.deferred none)) (World.putObj_heap_other (by show w.heap.size + 1 ≠ D; omega))).trans (World.cell?_setCell_same' W ⟨w.heap.size + 1, 0, none⟩ (.bool true) (by rw [r0]; rfl))
    refine ⟨.bool true, ?_, _, ⟨fun _ => HV.out, fun _ => rfl⟩, rfl, (HB.out.setCell (p := ⟨w.heap.size + 1, 0, none⟩) (by show w.heap.size ≤ w.heap.size + 1; omega) _).trans (below_putObj _ _ _ _ (by omega))⟩
    rw [results_cell1 rfl]
    go_simp
  case stop =>
    rintro D c pre B N W hD hne hpre ⟨hBo, rfl, hr, hv, hB⟩ hK
    have HB := Lib.hid hB
    have HV := Lib.hid hv
    clear hv hB k1 HSL hbl hbw hI hBo hne
    gi_wp2_with fail
    refine ⟨by simp, .inl ⟨_, _, rfl, run_takeDeferred hK, ?_⟩⟩
    have hc := (World.cell?_of_block (a := ⟨w.heap.size + 1, 0, none⟩) (w' := W.putObj D (.deferred none)) (World.putObj_heap_other (by show w.heap.size + 1 ≠ D; omega))).trans hr
    refine ⟨.bool false, ?_, _, ⟨fun h => by simp at h, fun h => absurd h HV.out⟩, rfl, HB.out.trans (below_putObj _ _ _ _ (by omega))⟩
    rw [results_cell1 rfl]
    go_simp
end Go.Proofs.YtfeijijeohfpgaaDoor
namespace Go.Proofs.YtfeijijeohfpgaaDoor
open Go Go.RowKit

set_option maxRecDepth 100000 in
set_option maxHeartbeats 2000000 in
theorem lawIsGenerated {C : Nat → Prop} (t : Tm) (v : Value) (n : Int) (w : World) (hka : KA w) (h : TM w C t v) (hf : t.fit) :
    Calls Tryd.prog 4 #[v, .int .i64 n] w fun e w' => e = .returned (.bool true) ∧ Below w.heap.size w w' := by
  have HKA := Lib.hid (fun (w' : World) (hb : Below w.heap.size w w') => hka.below hb)
  clear hka
  have HT := Lib.hid (fun w' (hb : Below w.heap.size w w') => h.keep hb)
  obtain ⟨tp, tc, rp, rc, p, c, rfl, _⟩ := h
  have HB0 := Lib.hid (al_below w (.cells (tmC t tp tc rp rc p c) 27))
  have HX0 := Lib.hid (Bx9.new w t tp tc rp rc p c 27)
  go_enter Tryd.func4, Tryd.ntmps4
  go_wp2_with fail
  refine (szM_any (HT.out _ HB0.out) hf 1048576 (by omega) (by omega)).mono ?_
  rintro e w1 ⟨r, hr, rfl, hb1⟩
  have HX1 := Lib.hid (HX0.out.keep hb1)
  have HB1 := Lib.hid (HB0.out.trans (hb1.mono HB0.out.size))
  have HR := Lib.hid hr
  clear hr hb1
  by_cases h0 : r < 0
  · go_wp2_with fail
    go_ret
    exact ⟨rfl, HB1.out⟩
  have hn : t.wt ≤ 1048576 := by have := HR.out; unfold SzEnds at this; omega
  have hn2 : t.wt ≤ 2097152 := by omega
  obtain ⟨g0, g1, g2, g3, g4, g5, g6, g7, g8⟩ := HX1.out
  go_wp2_with fail
  refine (toM_any (HT.out _ HB1.out) hn).mono ?_
  rintro e w2 ⟨v1, rfl, ho1, hb2⟩
  have HO1 := Lib.hid ho1
  have HB2 := Lib.hid (HB1.out.trans (hb2.mono HB1.out.size))
  have HX2 := Lib.hid (HX1.out.keep hb2)
  clear ho1 hb2 g0 g1 g2 g3 g4 g5 g6 g7 g8
  go_wp2_with fail
  refine (genS_at n HO1.out.tm hn2).mono ?_
  rintro e w3 ⟨r1, hr1, rfl, hb3⟩
  have HB3 := Lib.hid (HB2.out.trans (hb3.mono HB2.out.size))
  have HX3 := Lib.hid (HX2.out.keep hb3)
  have HR1 := Lib.hid hr1
  clear hb3 hr1
  obtain ⟨g0, g1, g2, g3, g4, g5, g6, g7, g8⟩ := HX3.out
  go_wp2_with fail
  refine (toM_any (HT.out _ HB3.out) hn).mono ?_
  rintro e w4 ⟨v2, rfl, ho2, hb4⟩
  have HY := Lib.hid (fun w' (hb : Below w4.heap.size w4 w') => ho2.tm.keep hb)
  obtain ⟨tp2, tc2, rp2, rc2, p2, c2, rfl, _⟩ := ho2
  have HB4 := Lib.hid (HB3.out.trans (hb4.mono HB3.out.size))
  have HX4 := Lib.hid (HX3.out.keep hb4)
  have HBX := Lib.hid (al_below w4 (.cells (tmC t tp2 tc2 rp2 rc2 p2 c2) 35))
  have HZ4 := Lib.hid (Bx9.new w4 t tp2 tc2 rp2 rc2 p2 c2 35)
  clear hb4 g0 g1 g2 g3 g4 g5 g6 g7 g8
  go_wp2_with fail
  refine (genI_any n (HKA.out _ (HB4.out.trans (HBX.out.mono HB4.out.size))) (HY.out _ HBX.out) hn2).mono ?_
  rintro e w5 ⟨r2, hr2, rfl, hb5⟩
  have HZ5 := Lib.hid (HZ4.out.keep hb5)
  have hbb := below_box hb5
  have HB5 := Lib.hid (HB4.out.trans (hbb.mono HB4.out.size))
  have HX5 := Lib.hid (HX4.out.keep hbb)
  have HXB := Lib.hid hbb
  obtain rfl : r2 = r1 := by first | exact hr2.trans HR1.out.symm | exact Bool.eq_iff_iff.2 (hr2.trans HR1.out.symm) | exact hr2.one HR1.out
  clear hb5 hbb hr2 HR1
  obtain ⟨g0, g1, g2, g3, g4, g5, g6, g7, g8⟩ := HX5.out
  obtain ⟨d0, d1, d2, d3, d4, d5, d6, d7, d8⟩ := HZ5.out
  go_wp2_with fail
  go_region_held3 (fun w' => w'.cell? ⟨w.heap.size, 0, none⟩ = some (.int .i64 t.kind) ∧ w'.cell? ⟨w.heap.size, 1, none⟩ = some (.string t.name) ∧ w'.cell? ⟨w.heap.size, 2, none⟩ = some (.string t.other) ∧ w'.cell? ⟨w.heap.size, 3, none⟩ = some (.int .i64 t.n) ∧ w'.cell? ⟨w.heap.size, 4, none⟩ = some (.int .i64 t.ty.kind) ∧ w'.cell? ⟨w.heap.size, 5, none⟩ = some (.slice tp t.ty.args.length tc) ∧ w'.cell? ⟨w.heap.size, 6, none⟩ = some (.int .i64 t.res.kind) ∧ w'.cell? ⟨w.heap.size, 7, none⟩ = some (.slice rp t.res.args.length rc) ∧ w'.cell? ⟨w.heap.size, 8, none⟩ = some (.slice p t.args.length c) ∧ w'.cell? ⟨w4.heap.size, 0, none⟩ = some (.int .i64 t.kind) ∧ w'.cell? ⟨w4.heap.size, 1, none⟩ = some (.string t.name) ∧ w'.cell? ⟨w4.heap.size, 2, none⟩ = some (.string t.other) ∧ w'.cell? ⟨w4.heap.size, 3, none⟩ = some (.int .i64 t.n) ∧ w'.cell? ⟨w4.heap.size, 4, none⟩ = some (.int .i64 t.ty.kind) ∧ w'.cell? ⟨w4.heap.size, 5, none⟩ = some (.slice tp2 t.ty.args.length tc2) ∧ w'.cell? ⟨w4.heap.size, 6, none⟩ = some (.int .i64 t.res.kind) ∧ w'.cell? ⟨w4.heap.size, 7, none⟩ = some (.slice rp2 t.res.args.length rc2) ∧ w'.cell? ⟨w4.heap.size, 8, none⟩ = some (.slice p2 t.args.length c2) ∧ Below w5.heap.size w5 w')
    (first
      | (go_keep; done)
      | exact ⟨g0, g1, g2, g3, g4, g5, g6, g7, g8, d0, d1, d2, d3, d4, d5, d6, d7, d8, (Below.refl _ _).drew⟩
      | exact keep18 hb7 (by assumption)
      | exact keep18 hb6 (by assumption))
    (first
      | (go_at_call 12; refine (toM_any (HT.out _ (HB5.out.trans (((Below.refl _ _).drew).mono HB5.out.size))) hn).mono ?_; rintro e w6 ⟨v3, rfl, ho3, hb6⟩)
      | (go_at_call 14; refine (eqM_any (HY.out _ (HXB.out.trans (((Below.refl _ _).drew.trans hb6).mono HXB.out.size))) ho3.tm).mono ?_; rintro e w7 ⟨b7, he7, rfl, hb7⟩))
  rename_i hH
  have HBL := Lib.hid (HB5.out.trans (hH.2.2.2.2.2.2.2.2.2.2.2.2.2.2.2.2.2.2.mono HB5.out.size))
  obtain rfl : b7 = true := by simpa using he7
  clear hH
  go_wp2_with fail
  go_ret
  exact ⟨rfl, HBL.out⟩
end Go.Proofs.YtfeijijeohfpgaaDoor
namespace Go.Proofs.YtfeijijeohfpgaaDoor
open Go Go.RowKit Go.Shelf
attribute [local go_sem] Oper.semAt_some

set_option maxRecDepth 100000 in
set_option maxHeartbeats 2000000 in
theorem highI_any {C : Nat → Prop} {t : Tm} {v : Value} {w : World} (hka : KA w) (h : TM w C t v) (hn : t.wt ≤ 2097152) :
    Calls Tryd.prog 18 #[v] w (IntRet (HighIs t) w) := by
  have hnt : t.nodes ≤ 2097153 := by have := t.nodes_wt; omega
  have HKA := Lib.hid (fun (w' : World) (hb : Below w.heap.size w w') => hka.below hb)
  have HWT := Lib.hid hn
  clear hka hn
  obtain ⟨tp, tc, rp, rc, p, c, rfl, hT⟩ := h
  have HT := Lib.hid (hT.mono (C' := (· < w.heap.size)) (fun _ _ h => h))
  clear hT
  refine (callsIn_wide (n := 3)).1 ?_
  refine callsIn_of_wp_marks Tryd.func18 rfl trivial ?_ rfl
  simp only [Tryd.ntmps18, List.size_toArray, List.length_cons, List.length_nil, Nat.reduceAdd, Nat.reduceSub, Array.replicate_succ, Array.replicate_zero, List.push_toArray, List.append_toArray, List.nil_append, List.cons_append]
  gi_wp2_with fail
  obtain ⟨w0, hw0, hs0, hb0, hk0⟩ := box_new w (tmC t tp tc rp rc p c) 35
  rw [hw0]
  refine ⟨trivial, ?_⟩
  refine (callsIn_wide.2 (levI_any 0 (HKA.out _ hb0) ⟨_, _, _, _, _, _, rfl, HT.out.stays (.of_below hb0)⟩ HWT.out)).mono ?_
  rintro e w1 ⟨r, hr, rfl, hb1⟩
  have hk01 := (hb1.block _ (by omega)).trans hk0
  have hb01 : Below w.heap.size w w1 := hb0.trans (hb1.mono hb0.size)
  have hs1 := hb1.size
  have HR := Lib.hid hr
  have HB01 := Lib.hid hb01
  clear hr hb1 hw0 hk0 hb0
  cases r with
  | false =>
    clear hk01 hb01
    gi_wp2_with fail
    exact ⟨_, results_tmp rfl _ _ _, _, Or.inr ⟨fun h => (by have := HR.out.2 h; cases this), rfl⟩, rfl, HB01.out⟩
  | true =>
  have HIS := Lib.hid (HR.out.1 (by trivial))
  have hal := al_below w1 (.cells #[.int .i64 0] 3)
  clear hal
  gi_wp2_with fail
  obtain ⟨w2, hw2, hs2, hb2, hk2⟩ := box_new w1 #[.int .i64 0] 3
  rw [hw2]
  refine ⟨trivial, ?_⟩
  refine (callsIn_wide.2 (nwl_any w.heap.size 0 0 w2)).mono ?_
  rintro e wl ⟨Bn, Be, rfl, hI, hbw⟩
  have hsz := hbw.size
  have hb02 : Below w.heap.size w w2 := hb01.trans (hb2.mono hb01.size)
  have hbl : Below w.heap.size w wl := hb02.trans (hbw.mono hb02.size)
  have k1 : wl.heap[w1.heap.size]? = some (.cells #[.int .i64 0] 3 (0, 0)) := (hbw.block _ (by omega)).trans hk2
  have HSL : TermAt wl (fun z => z < w.heap.size + 1) t w.heap.size 0 := boxAt ((hbw.block _ (by omega)).trans ((hb2.block _ (by omega)).trans hk01)) (by omega) ((HT.out.stays (.of_below hbl)).mono (fun z hz _ => by omega))
  clear hk2 hb2 hw2 hb02 hk01 hb01
  gi_wp2_with fail
  refine rangeE_law (E := fun _ => False) (F := Fence.wide) (n := 3) rfl (by omega) (gf := 59) (lb := #[.pointer (some ⟨Bn, 0, none⟩), .pointer (some ⟨Be, 0, none⟩)]) rfl trivial (enters_of Tryd.func59 (by kernel_rfl) rfl)
    (B0 := fun b => b = w1.heap.size) (levels_seq (fun _ => False) hI HSL HWT.out (Below.refl _ _) (fun b h => by omega) (fun _ h => h.elim)) (fun _ h => h.elim) (fun _ => rfl) (fun b h h2 => by omega) (fun b h => by omega) (fun b h => by omega)
    (fun pre B N W => (∀ z, B z ↔ z = w1.heap.size) ∧ (∀ z, ¬ N z) ∧ W.cell? ⟨w1.heap.size, 0, none⟩ = some (.int .i64 (topL 0 pre)) ∧ W.frozen? ⟨w1.heap.size, 0, none⟩ = false ∧ w1.heap.size < W.heap.size ∧ Below w.heap.size w W)
    (fun _ _ _ _ _ => False)
    (fun pre B N A A' h hk => ⟨h.1, h.2.1, (hk.1.cell (by show w1.heap.size < _; omega)).trans h.2.2.1, (hk.1.frozen (by show w1.heap.size < _; omega)).trans h.2.2.2.1, Nat.lt_of_lt_of_le h.2.2.2.2.1 hk.1.size, h.2.2.2.2.2.trans (hk.1.mono (by omega))⟩)
    (fun _ _ _ _ _ _ h _ => h)
    (fun x Y A A' l r hl hg hr hA => goodL_loop hg hA (by omega)) (fun pre B N A h z hz => by rw [(h.1 z).1 hz]; exact h.2.2.2.2.1) (fun x Y A z hg hz => absurd hz (hg.2 z)) ⟨fun _ => Iff.rfl, fun _ h => h, cell_of_blk k1 0, unfrozen_of_blk k1 0, (Array.getElem?_eq_some_iff.1 k1).1, hbl⟩
    (fun x s a' W => a' = { tmps := #[tmV t tp tc rp rc p c, .pointer (some ⟨w.heap.size, 0, none⟩), .int .i64 0, .pointer (some ⟨w1.heap.size, 0, none⟩), undef, .int .i64 x.1.2,
      tmV t tp tc rp rc p c, .bool true, .bool false, iterL Bn Be, .pointer (some ⟨x.2.1, x.2.2, none⟩), .int .i64 x.1.2, undef, undef, undef, undef], defers := [] })
    (fun x s a' W l r o h hl => h) ?assign ?body ?done ?stop
  case assign =>
    rintro l ⟨⟨x, lv⟩, ⟨b1, o1⟩⟩ Y W K hG hK
    have HK := Lib.hid hK
    clear hK
    gi_wp2
    exact HK.out _ _ (Below.refl _ _) (by simp)
  case body =>
    rintro l pre ⟨⟨x, lv⟩, ⟨b1, o1⟩⟩ s a' Y B N W ⟨hBo, hNo, r2, rz, hlt, hB⟩ hpre hG hYB hs rfl hlp hBl
    have HBO := Lib.hid hBo
    have HB := Lib.hid hB
    have HR := Lib.hid r2
    have HZ := Lib.hid rz
    have HLT := Lib.hid hlt
    clear hBo hB hpre hG hYB hs hlp hBl k1 HSL hbl hbw hI hNo hlt
    gi_wp2_with fail
    all_goals
      refine ⟨B, fun _ => False, Grew.refl (fun b hb => ?_), fun z hz => hz.elim, Holds.setCell (Holds.refl _ _) ⟨w1.heap.size, 0, none⟩ ((HBO.out _).2 rfl) _, HBO.out, fun _ h => h, ?_, by rw [World.frozen?_setCell]; exact HZ.out, by have := HLT.out; simpa [World.setCell] using this, HB.out.setCell (p := ⟨w1.heap.size, 0, none⟩) (by show w.heap.size ≤ w1.heap.size; omega) _⟩
      · rw [(HBO.out b).1 hb]
        have := HLT.out
        simpa [World.setCell] using this
      · show (World.setCell W ⟨w1.heap.size, 0, none⟩ _).cell? ⟨w1.heap.size, 0, none⟩ = some (.int .i64 (topL 0 (pre ++ [(x, lv)])))
        rw [topL_snoc]
        refine (World.cell?_setCell_same' _ _ _ (by rw [HR.out]; rfl)).trans ?_
        congr 2
        all_goals
          show _ = max (topL 0 pre) lv
          omega
  case done =>
    rintro D B N W hD hne ⟨hBo, hNo, r0, _, _, hB⟩ hK
    have HB := Lib.hid hB
    have HS := Lib.hid (high_0 t)
    clear hB k1 HSL hbl hbw hI hBo hNo hne
    gi_wp2_with fail
    refine ⟨by simp, .inl ⟨_, _, rfl, run_takeDeferred hK, ?_⟩⟩
    exact ⟨_, results_tmp rfl _ _ _, _, Or.inl ⟨HIS.out, HS.out.symm⟩, rfl, HB.out.trans (below_putObj _ _ _ _ (by omega))⟩
  case stop =>
    rintro D c pre B N W _ _ _ h _
    exact h.elim
end Go.Proofs.YtfeijijeohfpgaaDoor
namespace Go.Proofs.YtfeijijeohfpgaaDoor
open Go Go.RowKit

set_option maxRecDepth 100000 in
set_option maxHeartbeats 2000000 in
theorem lawHighestLevel {C : Nat → Prop} (t : Tm) (v : Value) (w : World) (hka : KA w) (h : TM w C t v) (hf : t.fit) :
    Calls Tryd.prog 5 #[v] w fun e w' => e = .returned (.bool true) ∧ Below w.heap.size w w' := by
  have HKA := Lib.hid (fun (w' : World) (hb : Below w.heap.size w w') => hka.below hb)
  clear hka
  have HT := Lib.hid (fun w' (hb : Below w.heap.size w w') => h.keep hb)
  obtain ⟨tp, tc, rp, rc, p, c, rfl, _⟩ := h
  have HB0 := Lib.hid (al_below w (.cells (tmC t tp tc rp rc p c) 27))
  have HX0 := Lib.hid (Bx9.new w t tp tc rp rc p c 27)
  go_enter Tryd.func5, Tryd.ntmps5
  go_wp2_with fail
  refine (szM_any (HT.out _ HB0.out) hf 1048576 (by omega) (by omega)).mono ?_
  rintro e w1 ⟨r, hr, rfl, hb1⟩
  have HX1 := Lib.hid (HX0.out.keep hb1)
  have HB1 := Lib.hid (HB0.out.trans (hb1.mono HB0.out.size))
  have HR := Lib.hid hr
  clear hr hb1
  by_cases h0 : r < 0
  · go_wp2_with fail
    go_ret
    exact ⟨rfl, HB1.out⟩
  have hn : t.wt ≤ 1048576 := by have := HR.out; unfold SzEnds at this; omega
  have hn2 : t.wt ≤ 2097152 := by omega
  obtain ⟨g0, g1, g2, g3, g4, g5, g6, g7, g8⟩ := HX1.out
  go_wp2_with fail
  refine (toM_any (HT.out _ HB1.out) hn).mono ?_
  rintro e w2 ⟨v1, rfl, ho1, hb2⟩
  have HO1 := Lib.hid ho1
  have HB2 := Lib.hid (HB1.out.trans (hb2.mono HB1.out.size))
  have HX2 := Lib.hid (HX1.out.keep hb2)
  clear ho1 hb2 g0 g1 g2 g3 g4 g5 g6 g7 g8
  go_wp2_with fail
  refine (highS_at HO1.out.tm hn2).mono ?_
  rintro e w3 ⟨r1, hr1, rfl, hb3⟩
  have HB3 := Lib.hid (HB2.out.trans (hb3.mono HB2.out.size))
  have HX3 := Lib.hid (HX2.out.keep hb3)
  have HR1 := Lib.hid hr1
  clear hb3 hr1
  obtain ⟨g0, g1, g2, g3, g4, g5, g6, g7, g8⟩ := HX3.out
  go_wp2_with fail
  refine (toM_any (HT.out _ HB3.out) hn).mono ?_
  rintro e w4 ⟨v2, rfl, ho2, hb4⟩
  have HY := Lib.hid (fun w' (hb : Below w4.heap.size w4 w') => ho2.tm.keep hb)
  obtain ⟨tp2, tc2, rp2, rc2, p2, c2, rfl, _⟩ := ho2
  have HB4 := Lib.hid (HB3.out.trans (hb4.mono HB3.out.size))
  have HX4 := Lib.hid (HX3.out.keep hb4)
  have HBX := Lib.hid (al_below w4 (.cells (tmC t tp2 tc2 rp2 rc2 p2 c2) 35))
  have HZ4 := Lib.hid (Bx9.new w4 t tp2 tc2 rp2 rc2 p2 c2 35)
  clear hb4 g0 g1 g2 g3 g4 g5 g6 g7 g8
  go_wp2_with fail
  refine (highI_any (HKA.out _ (HB4.out.trans (HBX.out.mono HB4.out.size))) (HY.out _ HBX.out) hn2).mono ?_
  rintro e w5 ⟨r2, hr2, rfl, hb5⟩
  have HZ5 := Lib.hid (HZ4.out.keep hb5)
  have hbb := below_box hb5
  have HB5 := Lib.hid (HB4.out.trans (hbb.mono HB4.out.size))
  have HX5 := Lib.hid (HX4.out.keep hbb)
  have HXB := Lib.hid hbb
  obtain rfl : r2 = r1 := by first | exact hr2.trans HR1.out.symm | exact Bool.eq_iff_iff.2 (hr2.trans HR1.out.symm) | exact hr2.one HR1.out
  clear hb5 hbb hr2 HR1
  obtain ⟨g0, g1, g2, g3, g4, g5, g6, g7, g8⟩ := HX5.out
  obtain ⟨d0, d1, d2, d3, d4, d5, d6, d7, d8⟩ := HZ5.out
  go_wp2_with fail
  go_region_held3 (fun w' => w'.cell? ⟨w.heap.size, 0, none⟩ = some (.int .i64 t.kind) ∧ w'.cell? ⟨w.heap.size, 1, none⟩ = some (.string t.name) ∧ w'.cell? ⟨w.heap.size, 2, none⟩ = some (.string t.other) ∧ w'.cell? ⟨w.heap.size, 3, none⟩ = some (.int .i64 t.n) ∧ w'.cell? ⟨w.heap.size, 4, none⟩ = some (.int .i64 t.ty.kind) ∧ w'.cell? ⟨w.heap.size, 5, none⟩ = some (.slice tp t.ty.args.length tc) ∧ w'.cell? ⟨w.heap.size, 6, none⟩ = some (.int .i64 t.res.kind) ∧ w'.cell? ⟨w.heap.size, 7, none⟩ = some (.slice rp t.res.args.length rc) ∧ w'.cell? ⟨w.heap.size, 8, none⟩ = some (.slice p t.args.length c) ∧ w'.cell? ⟨w4.heap.size, 0, none⟩ = some (.int .i64 t.kind) ∧ w'.cell? ⟨w4.heap.size, 1, none⟩ = some (.string t.name) ∧ w'.cell? ⟨w4.heap.size, 2, none⟩ = some (.string t.other) ∧ w'.cell? ⟨w4.heap.size, 3, none⟩ = some (.int .i64 t.n) ∧ w'.cell? ⟨w4.heap.size, 4, none⟩ = some (.int .i64 t.ty.kind) ∧ w'.cell? ⟨w4.heap.size, 5, none⟩ = some (.slice tp2 t.ty.args.length tc2) ∧ w'.cell? ⟨w4.heap.size, 6, none⟩ = some (.int .i64 t.res.kind) ∧ w'.cell? ⟨w4.heap.size, 7, none⟩ = some (.slice rp2 t.res.args.length rc2) ∧ w'.cell? ⟨w4.heap.size, 8, none⟩ = some (.slice p2 t.args.length c2) ∧ Below w5.heap.size w5 w')
    (first
      | (go_keep; done)
      | exact ⟨g0, g1, g2, g3, g4, g5, g6, g7, g8, d0, d1, d2, d3, d4, d5, d6, d7, d8, (Below.refl _ _).drew⟩
      | exact keep18 hb7 (by assumption)
      | exact keep18 hb6 (by assumption))
    (first
      | (go_at_call 12; refine (toM_any (HT.out _ (HB5.out.trans (((Below.refl _ _).drew).mono HB5.out.size))) hn).mono ?_; rintro e w6 ⟨v3, rfl, ho3, hb6⟩)
      | (go_at_call 14; refine (eqM_any (HY.out _ (HXB.out.trans (((Below.refl _ _).drew.trans hb6).mono HXB.out.size))) ho3.tm).mono ?_; rintro e w7 ⟨b7, he7, rfl, hb7⟩))
  rename_i hH
  have HBL := Lib.hid (HB5.out.trans (hH.2.2.2.2.2.2.2.2.2.2.2.2.2.2.2.2.2.2.mono HB5.out.size))
  obtain rfl : b7 = true := by simpa using he7
  clear hH
  go_wp2_with fail
  go_ret
  exact ⟨rfl, HBL.out⟩
end Go.Proofs.YtfeijijeohfpgaaDoor
namespace Go.Proofs.YtfeijijeohfpgaaDoor
open Go Go.RowKit
def bs (xs : List ByteArray) : List (List UInt8) := xs.map (·.data.toList)
def SS (w : World) (v : Value) (xs : List ByteArray) : Prop :=
  (xs = [] ∧ ∃ a c, v = .slice a 0 c) ∨
  (1 ≤ xs.length ∧ ∃ b o c, v = .slice (some ⟨b, o, none⟩) xs.length c ∧ xs.length ≤ c ∧ b < w.heap.size ∧ ∀ j x, xs[j]? = some x → w.cell? ⟨b, o + j, none⟩ = some (.string x))
theorem ownsRow_below {w w' : World} {base : Nat} {e : TypeId} {size n : Nat} {v : Value} {xs : List Value} (h : w.ownsRow base e size v n xs) (hb : Below w.heap.size w w') : w'.ownsRow base e size v n xs := by
  refine ⟨h.1, ?_⟩
  rcases h.2 with h0 | ⟨g, cap, cur, rfl, hg, hblk, h1, h2, h3, h4⟩
  · exact Or.inl h0
  · refine Or.inr ⟨g, cap, cur, rfl, hg, ?_, h1, h2, h3, h4⟩
    have hlt : g < w.heap.size := by
      rcases Nat.lt_or_ge g w.heap.size with h' | h'
      · exact h'
      · rw [Array.getElem?_eq_none h'] at hblk; cases hblk
    rw [hb.block g hlt]; exact hblk

theorem ownsRow_mono {w : World} {base base' : Nat} {e : TypeId} {size n : Nat} {v : Value} {xs : List Value} (h : w.ownsRow base e size v n xs) (hb : base' ≤ base) : w.ownsRow base' e size v n xs := by
  refine ⟨h.1, ?_⟩
  rcases h.2 with h0 | ⟨g, cap, cur, rfl, hg, h'⟩
  · exact Or.inl h0
  · exact Or.inr ⟨g, cap, cur, rfl, Nat.le_trans hb hg, h'⟩
theorem SS_of_row {w : World} {base : Nat} {e : TypeId} {n : Nat} {v : Value} {xs : List ByteArray} (h : w.ownsRow base e 1 v n (xs.map Value.string)) : SS w v xs := by
  have hn : xs.length = n := by simpa using h.1
  rcases h.2 with ⟨rfl, h0⟩ | ⟨g, cap, cur, rfl, hg, hblk, h1, h2, h3, h4⟩
  · exact Or.inl ⟨List.eq_nil_of_length_eq_zero (by omega), _, _, rfl⟩
  · by_cases hz : n = 0
    · subst hz
      exact Or.inl ⟨List.eq_nil_of_length_eq_zero hn, _, _, rfl⟩
    · have hlt : g < w.heap.size := by
        rcases Nat.lt_or_ge g w.heap.size with h' | h'
        · exact h'
        · rw [Array.getElem?_eq_none h'] at hblk; cases hblk
      refine Or.inr ⟨by omega, g, 0, cap, by rw [hn], by omega, hlt, fun j x hj => ?_⟩
      have hj1 : j < n := by
        have := (List.getElem?_eq_some_iff.1 hj).1
        omega
      rw [Nat.zero_add, World.ownsRow.cellAt (xs := xs.map Value.string) (cap := cap) (n := n) h j (by omega), List.getElem?_map, hj]
      rfl
end Go.Proofs.YtfeijijeohfpgaaDoor
namespace Go.Proofs.YtfeijijeohfpgaaDoor
open Go Go.RowKit

theorem infoStr : (Tryd.prog.info? 9).map (fun i => (i.zero, i.size, i.bytes)) = some (some (.string ⟨#[]⟩), 1, 16) := by kernel_rfl

end Go.Proofs.YtfeijijeohfpgaaDoor
namespace Go.Proofs.YtfeijijeohfpgaaDoor
open Go Go.RowKit
def Own (w : World) (base : Nat) (v : Value) (xs : List ByteArray) : Prop := w.ownsRow base 9 1 v xs.length (xs.map Value.string)
theorem Own.ss {w : World} {base : Nat} {v : Value} {xs : List ByteArray} (h : Own w base v xs) : SS w v xs := SS_of_row h
theorem Own.below {w w' : World} {base : Nat} {v : Value} {xs : List ByteArray} (h : Own w base v xs) (hb : Below w.heap.size w w') : Own w' base v xs := ownsRow_below h hb
theorem own_empty (w : World) : Own (w.alloc (.cells #[] 9)) w.heap.size (.slice (some ⟨w.heap.size, 0, none⟩) 0 0) [] :=
  World.ownsRow_lit w #[] 0 (Nat.le_refl _) (Nat.zero_le _) rfl

theorem wpList_app_str {w0 : World} {ops : Array Oper} {rest : List Oper} {o : Oper} {a : Act} {Q : Exit → Act → World → Prop} (hgd : o.guard = none) (s x : Operand)
    (ho : o.op = .call { callee := .builtin .append, args := #[s, x], argTypes := #[62, 62] })
    (base : Nat) (v : Value) (xs : List ByteArray) (hs : a.eval s = v) (hown : Own w0 base v xs) (y : ByteArray)
    (hx : a.eval x = .slice (some ⟨w0.heap.size, 0, none⟩) 1 1) (hlen : xs.length ≤ 8388608) (hbase : base ≤ w0.heap.size)
    (h : ∀ v' w', Own w' base v' (xs ++ [y]) → Below base w0 w' → wpList Tryd.prog ops Q rest (a.put o.dst v') w') :
    wpList Tryd.prog ops Q (o :: rest) a (w0.alloc (.cells #[.string y] 9)) := by
  obtain ⟨i0, hi, hz0, hz1, hz2⟩ := info_parts infoStr
  have hown1 := hown.below ((Below.refl w0.heap.size w0).alloc (Nat.le_refl _) (.cells #[.string y] 9))
  refine wpList_append_own _ hgd s x 62 ho base 9 i0 (.string ⟨#[]⟩) 1 16 Tryd.underlying62 hi hz0 hz1 hz2 rfl (by decide) v xs.length (xs.map Value.string) hs hown1
    ⟨w0.heap.size, 0, none⟩ 1 1 [.string y] hx rfl (cell_one_new _ _ _) (fun u hu => by simp at hu; subst hu; rfl) (by unfold maxLen; omega) (by omega) (by simp; omega) ?_
  intro v' w' hown' hg _
  refine h v' w' ?_ ?_
  · have e : (xs ++ [y]).map Value.string = xs.map Value.string ++ [Value.string y] := by simp
    have e1 : (xs ++ [y]).length = xs.length + 1 := by simp
    unfold Own
    rw [e, e1]
    exact hown'
  · exact ((Below.refl base w0).alloc hbase _).grown hg (by simp; omega) (fun k hk => (hown1.lt k hk).1)
end Go.Proofs.YtfeijijeohfpgaaDoor
namespace Go.Proofs.YtfeijijeohfpgaaDoor
open Go Go.RowKit
def ixFrom (s : ByteArray) : List ByteArray → Int → Int
  | [], _ => -1
  | x :: r, k => if x = s then k else ixFrom s r (k + 1)
def ixOf (xs : List ByteArray) (s : ByteArray) : Int := ixFrom s xs 0

theorem ix_here {xs : List ByteArray} {s : ByteArray} {k : Nat} {K : Int} (hk : k < xs.length) (h : xs[k] = s) : ixFrom s (xs.drop k) K = K := by
  rw [List.drop_eq_getElem_cons hk, ixFrom, if_pos h]
theorem ix_next {xs : List ByteArray} {s : ByteArray} {k : Nat} {K : Int} (hk : k < xs.length) (h : ¬ xs[k] = s) : ixFrom s (xs.drop k) K = ixFrom s (xs.drop (k + 1)) (K + 1) := by
  rw [List.drop_eq_getElem_cons hk, ixFrom, if_neg h]
theorem ix_end {xs : List ByteArray} {s : ByteArray} {K : Int} : ixFrom s (xs.drop xs.length) K = -1 := by
  rw [List.drop_of_length_le (Nat.le_refl _), ixFrom]
theorem ix_neg {s : ByteArray} : ∀ {xs : List ByteArray} {K : Int}, 0 ≤ K → (ixFrom s xs K < 0 ↔ s ∉ xs)
  | [], K, _ => by simp [ixFrom]
  | x :: r, K, h => by
    have := ix_neg (s := s) (xs := r) (K := K + 1) (by omega)
    rw [ixFrom]
    by_cases hx : x = s
    · rw [if_pos hx]
      simp [hx]
      omega
    · rw [if_neg hx, this]
      simp [show s ≠ x from fun h => hx h.symm]
theorem ixOf_neg {s : ByteArray} {xs : List ByteArray} : ixOf xs s < 0 ↔ s ∉ xs := ix_neg (by decide)
def AnsI (n : Int) (w : World) (e : Ending) (w' : World) : Prop := e = .returned (.int .i64 n) ∧ w' = w

set_option maxRecDepth 100000 in
set_option maxHeartbeats 400000 in
theorem ixS_some (xs : List ByteArray) (s : ByteArray) (b o c : Nat) (w : World) (h1 : 1 ≤ xs.length) (hn : xs.length ≤ 9223372036854775807)
    (hcell : ∀ j x, xs[j]? = some x → w.cell? ⟨b, o + j, none⟩ = some (.string x)) :
    Calls Tryd.prog 109 #[.slice (some ⟨b, o, none⟩) xs.length c, .string s] w (AnsI (ixOf xs s) w) := by
  have HC := Lib.hid hcell
  clear hcell
  go_enter Tryd.func109, Tryd.ntmps109
  go_wp2_with fail
  go_loop [5] (fun i => ∃ k : Nat, k ≤ xs.length ∧ i = .int .i64 k ∧ Hid (ixFrom s (xs.drop k) k = ixOf xs s)) (fun i => xs.length - (intOf i).toNat)
  case atStart => exact ⟨0, Nat.zero_le _, rfl, Lib.hid rfl⟩
  case round =>
    obtain ⟨k, hk, rfl, HE⟩ := hrel
    by_cases hlk : k < xs.length
    · have c1 := HC.out k _ (List.getElem?_eq_getElem hlk)
      by_cases hx : xs[k] = s
      · have HX := Lib.hid (ix_here (K := k) hlk hx)
        have t := str_yes hx
        clear hx
        go_wp2_with fail
        go_ret
        exact ⟨by rw [← HE.out, HX.out]; rfl, rfl⟩
      · have HX := Lib.hid (ix_next (K := k) hlk hx)
        have t := str_no hx
        clear hx
        go_wp2_with fail
        go_round
        case rel => exact ⟨k + 1, by omega, by go_num, Lib.hid (by rw [← HE.out, HX.out]; rfl)⟩
        case measure => simp [intOf]; omega
    · obtain rfl : k = xs.length := by omega
      go_wp2_with fail
      go_ret
      exact ⟨by rw [← HE.out, ix_end]; rfl, rfl⟩

set_option maxRecDepth 100000 in
theorem ixS_none (a : Option Addr) (s : ByteArray) (c : Nat) (w : World) :
    Calls Tryd.prog 109 #[.slice a 0 c, .string s] w (AnsI (-1) w) := by
  go_enter Tryd.func109, Tryd.ntmps109
  go_wp2_with fail
  go_loop [5] (fun i => i = .int .i64 0) (fun _ => 0)
  case atStart => rfl
  case round =>
    obtain rfl := hrel
    go_wp2_with fail
    go_ret
    exact ⟨rfl, rfl⟩

theorem ixS_any (xs : List ByteArray) (v : Value) (s : ByteArray) (w : World) (hn : xs.length ≤ 9223372036854775807) (h : SS w v xs) :
    Calls Tryd.prog 109 #[v, .string s] w (AnsI (ixOf xs s) w) := by
  rcases h with ⟨rfl, a, c, rfl⟩ | ⟨h1, b, o, c, rfl, _, _, hcell⟩
  · exact ixS_none a s c w
  · exact ixS_some xs s b o c w h1 hn hcell

end Go.Proofs.YtfeijijeohfpgaaDoor
namespace Go.Proofs.YtfeijijeohfpgaaDoor
open Go Go.RowKit

def hasN (x : ByteArray) (acc : List ByteArray) : Bool := acc.any fun y => decide (y = x)
theorem hasN_in {acc : List ByteArray} {x : ByteArray} (h : x ∈ acc) : hasN x acc = true := by
  unfold hasN
  rw [List.any_eq_true]
  exact ⟨x, h, by simp⟩
theorem hasN_out {acc : List ByteArray} {x : ByteArray} (h : x ∉ acc) : hasN x acc = false := by
  unfold hasN
  rw [List.any_eq_false]
  intro y hy hc
  exact h (by rw [← of_decide_eq_true hc]; exact hy)
def addS (acc : List ByteArray) (x : ByteArray) : List ByteArray := if hasN x acc then acc else acc ++ [x]
def add (acc ys : List ByteArray) : List ByteArray := ys.foldl addS acc
def un (a b : List ByteArray) : List ByteArray := add (add [] a) b
theorem addS_in {acc : List ByteArray} {x : ByteArray} (h : x ∈ acc) : addS acc x = acc := by unfold addS; rw [if_pos (hasN_in h)]
theorem addS_out {acc : List ByteArray} {x : ByteArray} (h : x ∉ acc) : addS acc x = acc ++ [x] := by
  unfold addS
  rw [hasN_out h, if_neg (by decide)]
theorem add_nil (acc : List ByteArray) (ys : List ByteArray) : add acc (ys.take 0) = acc := rfl
theorem add_step (acc : List ByteArray) {ys : List ByteArray} {k : Nat} (hk : k < ys.length) : add acc (ys.take (k + 1)) = addS (add acc (ys.take k)) ys[k] := by
  rw [List.take_add_one, List.getElem?_eq_getElem hk]
  show add acc (ys.take k ++ [ys[k]]) = _
  unfold add
  rw [List.foldl_append]; rfl
theorem add_length : ∀ (ys acc : List ByteArray), (add acc ys).length ≤ acc.length + ys.length
  | [], acc => by simp [add]
  | y :: ys, acc => by
    have h := add_length ys (addS acc y)
    have h1 : (addS acc y).length ≤ acc.length + 1 := by
      unfold addS
      split
      · omega
      · simp
    have h2 : add acc (y :: ys) = add (addS acc y) ys := rfl
    rw [h2]
    simp only [List.length_cons]
    omega
theorem add_take_length (acc ys : List ByteArray) (k : Nat) : (add acc (ys.take k)).length ≤ acc.length + ys.length := by
  have h := add_length (ys.take k) acc
  have h1 := List.length_take_le' k ys
  omega
def At (w : World) (p : Option Addr) (xs : List ByteArray) : Prop := ∀ j x, xs[j]? = some x → ∃ b o, p = some ⟨b, o, none⟩ ∧ b < w.heap.size ∧ w.cell? ⟨b, o + j, none⟩ = some (.string x)
theorem SS.at {w : World} {v : Value} {xs : List ByteArray} (h : SS w v xs) : ∃ p c, v = .slice p xs.length c ∧ At w p xs := by
  rcases h with ⟨rfl, a, c, rfl⟩ | ⟨h1, b, o, c, rfl, _, hlt, hcell⟩
  · exact ⟨a, c, rfl, fun j x hj => by simp at hj⟩
  · exact ⟨_, c, rfl, fun j x hj => ⟨b, o, rfl, hlt, hcell j x hj⟩⟩

theorem ix_in {xs : List ByteArray} {s : ByteArray} (h : s ∈ xs) : decide (ixOf xs s < 0) = false := decide_eq_false (fun hc => ixOf_neg.1 hc h)
theorem ix_out {xs : List ByteArray} {s : ByteArray} (h : s ∉ xs) : decide (ixOf xs s < 0) = true := decide_eq_true (ixOf_neg.2 h)
def NewS' (ys : List ByteArray) (w : World) (e : Ending) (w' : World) : Prop := ∃ v, e = .returned v ∧ Own w' w.heap.size v ys ∧ Below w.heap.size w w'

set_option maxRecDepth 100000 in
set_option maxHeartbeats 1000000 in
theorem unS_at (a b : List ByteArray) (p q : Option Addr) (c d : Nat) (w : World) (ha : a.length ≤ 1048576) (hb : b.length ≤ 1048576) (hA : At w p a) (hB : At w q b) :
    Calls Tryd.prog 94 #[.slice p a.length c, .slice q b.length d] w (NewS' (un a b) w) := by
  have HA := Lib.hid hA
  have HQ := Lib.hid hB
  clear hA hB
  go_enter Tryd.func94, Tryd.ntmps94
  go_wp2_with fail
  go_loopw [5, 6] (fun v i wr => ∃ k : Nat, k ≤ a.length ∧ i = .int .i64 k ∧ Own wr w.heap.size v (add [] (a.take k)) ∧ Below w.heap.size w wr) (fun _ i _ => a.length - (intOf i).toNat)
  case atStart => exact ⟨0, Nat.zero_le _, rfl, own_empty w, (Below.refl _ _).alloc (Nat.le_refl _) _⟩
  case round =>
    obtain ⟨k, hk, rfl, hown, hbr⟩ := hrel
    have hsz := hbr.size
    have HO := Lib.hid hown
    have HB := Lib.hid hbr
    clear hown hbr
    by_cases hlk : k < a.length
    · obtain ⟨b0, o0, rfl, hb0, c0⟩ := HA.out k _ (List.getElem?_eq_getElem hlk)
      have c1 : ∀ wx, Below wr.heap.size wr wx → wx.cell? ⟨b0, o0 + k, none⟩ = some (.string a[k]) := fun wx hx => (hx.cell (p := ⟨b0, o0 + k, none⟩) (Nat.lt_of_lt_of_le hb0 hsz)).trans ((HB.out.cell (p := ⟨b0, o0 + k, none⟩) hb0).trans c0)
      have c2 := c1 wr (Below.refl _ _)
      clear c0 c1
      have hL := add_take_length [] a k
      simp only [List.length_nil, Nat.zero_add] at hL
      have HST := Lib.hid (add_step [] hlk)
      go_wp2_with fail
      refine (ixS_any _ _ a[k] wr (by omega) HO.out.ss).mono ?_
      rintro e w1 ⟨rfl, rfl⟩
      by_cases hin : a[k] ∈ add [] (a.take k)
      · have t := ix_in hin
        have HX := Lib.hid (addS_in hin)
        clear hin
        go_wp2_with fail
        go_roundw
        case rel => exact ⟨k + 1, by omega, by go_num, by rw [HST.out, HX.out]; exact HO.out, HB.out⟩
        case measure => simp [intOf]; omega
      · have t := ix_out hin
        have HX := Lib.hid (addS_out hin)
        clear hin
        go_wp2_with (at_builtin; refine wpList_app_str rfl _ _ rfl w.heap.size _ _ rfl HO.out a[k] rfl (by omega) hsz ?_; intro v' w2 hown2 hb2)
        have HR : Hid (Own w2 w.heap.size v' (add [] (a.take (k + 1)))) := Lib.hid (by rw [HST.out, HX.out]; exact hown2)
        have HB2 := Lib.hid (HB.out.trans hb2)
        clear hown2 hb2
        go_roundw
        case rel => exact ⟨k + 1, by omega, by go_num, HR.out, HB2.out⟩
        case measure => simp [intOf]; omega
    · obtain rfl : k = a.length := by omega
      have HO1 : Hid (Own wr w.heap.size u5 (add [] a)) := Lib.hid (by have := HO.out; rw [List.take_length] at this; exact this)
      clear HO
      go_wp2_with fail
      go_loopw [5, 7] (fun v i wr => ∃ k : Nat, k ≤ b.length ∧ i = .int .i64 k ∧ Own wr w.heap.size v (add (add [] a) (b.take k)) ∧ Below w.heap.size w wr) (fun _ i _ => b.length - (intOf i).toNat)
      case atStart => exact ⟨0, Nat.zero_le _, rfl, HO1.out, HB.out⟩
      case round =>
        clear HO1 HB hsz
        obtain ⟨k, hk, rfl, hown, hbr⟩ := hrel
        have hsz := hbr.size
        have HO := Lib.hid hown
        have HB := Lib.hid hbr
        clear hown hbr
        by_cases hlk : k < b.length
        · obtain ⟨b0, o0, rfl, hb0, c0⟩ := HQ.out k _ (List.getElem?_eq_getElem hlk)
          have c2 := (HB.out.cell (p := ⟨b0, o0 + k, none⟩) hb0).trans c0
          clear c0
          have hL := add_take_length (add [] a) b k
          have hL0 := add_length a []
          simp only [List.length_nil, Nat.zero_add] at hL0
          have HST := Lib.hid (add_step (add [] a) hlk)
          go_wp2_with fail
          refine (ixS_any _ _ b[k] wr (by omega) HO.out.ss).mono ?_
          rintro e w1 ⟨rfl, rfl⟩
          by_cases hin : b[k] ∈ add (add [] a) (b.take k)
          · have t := ix_in hin
            have HX := Lib.hid (addS_in hin)
            clear hin
            go_wp2_with fail
            go_roundw
            case rel => exact ⟨k + 1, by omega, by go_num, by rw [HST.out, HX.out]; exact HO.out, HB.out⟩
            case measure => simp [intOf]; omega
          · have t := ix_out hin
            have HX := Lib.hid (addS_out hin)
            clear hin
            go_wp2_with (at_builtin; refine wpList_app_str rfl _ _ rfl w.heap.size _ _ rfl HO.out b[k] rfl (by omega) hsz ?_; intro v' w2 hown2 hb2)
            have HR : Hid (Own w2 w.heap.size v' (add (add [] a) (b.take (k + 1)))) := Lib.hid (by rw [HST.out, HX.out]; exact hown2)
            have HB2 := Lib.hid (HB.out.trans hb2)
            clear hown2 hb2
            go_roundw
            case rel => exact ⟨k + 1, by omega, by go_num, HR.out, HB2.out⟩
            case measure => simp [intOf]; omega
        · obtain rfl : k = b.length := by omega
          have HO1 : Hid (Own wr w.heap.size u5 (un a b)) := Lib.hid (by have := HO.out; rw [List.take_length] at this; exact this)
          clear HO
          go_wp2_with fail
          go_ret
          exact ⟨_, rfl, HO1.out, HB.out⟩

theorem unS_any (a b : List ByteArray) (u v : Value) (w : World) (ha : a.length ≤ 1048576) (hb : b.length ≤ 1048576) (hA : SS w u a) (hB : SS w v b) :
    Calls Tryd.prog 94 #[u, v] w (NewS' (un a b) w) := by
  obtain ⟨p, c, rfl, hp⟩ := hA.at
  obtain ⟨q, d, rfl, hq⟩ := hB.at
  exact unS_at a b p q c d w ha hb hp hq
end Go.Proofs.YtfeijijeohfpgaaDoor
