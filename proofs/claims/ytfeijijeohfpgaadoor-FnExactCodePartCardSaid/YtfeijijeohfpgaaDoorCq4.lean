/-
  Several texts of the proof in one (each says below what it holds): TmNode TmNode2 TmFields0 TmFieldsSix TmFieldsNine TmFieldsOth TmFields KA TmIsT TmValid TmWalk LvP Copy AppS.
-/
import Derived.Test.YtfeijijeohfpgaaDoorCq3
import Derived.Test.YtfeijijeohfpgaaDoorCq2
import Derived.Deep.RegionHeld3
import Derived.Lib.LaidTab
import Derived.Test.YtfeijijeohfpgaaDoorProg
import Derived.WalkSmall
import Derived.Laws.OwnMore
import Derived.Laws.AppendOwn
set_option linter.unusedVariables false
set_option linter.unusedSimpArgs false
namespace Go.Proofs.YtfeijijeohfpgaaDoor
open Go Go.RowKit

def opAr (l : List UInt8) : Int :=
  if l = [43] then 2 else if l = [45] then 2 else if l = [42] then 2 else if l = [61] then 2 else if l = [60] then 2 else if l = [38] then 2 else if l = [124] then 2 else if l = [33] then 1 else 0
theorem opAr_range (l : List UInt8) : 0 ≤ opAr l ∧ opAr l ≤ 2 := by
  unfold opAr
  repeat' split
  all_goals omega
def arK (k o : Int) : Int :=
  if k = 1 then 0 else if k = 2 then 0 else if k = 3 then 0 else if k = 4 then o else if k = 6 then 1 else if k = 9 then 1 else if k = 10 then 1 else if k = 11 then 1 else if k = 12 then 1 else if k = 13 then 1 else if k = 7 then 2 else if k = 8 then 2 else if k = 5 then 3 else -1
def Tm.arity (t : Tm) : Int := arK t.kind (opAr t.name.toList)
set_option maxRecDepth 100000 in
set_option maxHeartbeats 1000000 in
theorem opArS_any (s : ByteArray) (w : World) : Calls Tryd.prog 83 #[.string s] w fun e w' => e = .returned (.int .i64 (opAr s.toList)) ∧ w' = w := by
  go_enter Tryd.func83, Tryd.ntmps83
  go_wp2
  all_goals
    go_ret
    exact ⟨by unfold opAr; simp_all, rfl⟩

set_option maxRecDepth 100000 in
set_option maxHeartbeats 2000000 in
theorem arityS_any (t : Tm) (tp : Option Addr) (tc : Nat) (rp : Option Addr) (rc : Nat) (p : Option Addr) (c : Nat) (w : World) :
    Calls Tryd.prog 56 #[tmV t tp tc rp rc p c] w fun e w' => e = .returned (.int .i64 t.arity) ∧ Below w.heap.size w w' := by
  have HB := Lib.hid (al_below w (.cells (tmC t tp tc rp rc p c) 35))
  go_enter Tryd.func56, Tryd.ntmps56
  go_wp2_with (first | (go_at_call 83; refine (opArS_any _ _).mono ?_; rintro e w' ⟨rfl, rfl⟩))
  all_goals
    go_ret
    exact ⟨by unfold Tm.arity arK; simp_all, HB.out⟩

set_option maxRecDepth 100000 in
set_option maxHeartbeats 1000000 in
theorem zeroS_any (k : Int) (p : Option Addr) (n c : Nat) (w : World) : Calls Tryd.prog 81 #[.agg #[.int .i64 k, .slice p n c]] w (Tells (k = 0 ∧ n = 0) w) := by
  have HB := Lib.hid (al_below w (.cells #[.int .i64 k, .slice p n c] 32))
  go_enter Tryd.func81, Tryd.ntmps81
  by_cases hk : k = 0
  · subst hk
    go_wp2_with fail
    go_ret
    exact ⟨_, by simp, rfl, HB.out⟩
  · have hk1 : (k == 0) = false := by simpa using hk
    go_wp2_with fail
    go_ret
    exact ⟨_, by simp [hk], rfl, HB.out⟩
def Tm.namesOk (t : Tm) : Prop :=
  if t.kind = 4 then 0 < opAr t.name.toList ∧ t.other.toList = [] else if t.kind = 1 ∨ t.kind = 6 ∨ t.kind = 8 then Nm t.name ∧ t.other.toList = []
  else if t.kind = 9 then Nm t.name ∧ Nm t.other ∧ t.name ≠ t.other else t.name.toList = [] ∧ t.other.toList = []
end Go.Proofs.YtfeijijeohfpgaaDoor
namespace Go.Proofs.YtfeijijeohfpgaaDoor
open Go Go.RowKit

theorem emp_iff (s : ByteArray) : s.toList.isEmpty = true ↔ s.toList = [] := by simp
theorem names_4 {t : Tm} (h : t.kind = 4) : t.namesOk ↔ 0 < opAr t.name.toList ∧ t.other.toList = [] := by rw [Tm.namesOk, if_pos h]
theorem names_1 {t : Tm} (h4 : ¬ t.kind = 4) (h : t.kind = 1 ∨ t.kind = 6 ∨ t.kind = 8) : t.namesOk ↔ Nm t.name ∧ t.other.toList = [] := by rw [Tm.namesOk, if_neg h4, if_pos h]
theorem names_9 {t : Tm} (h4 : ¬ t.kind = 4) (h1 : ¬ (t.kind = 1 ∨ t.kind = 6 ∨ t.kind = 8)) (h : t.kind = 9) : t.namesOk ↔ Nm t.name ∧ Nm t.other ∧ t.name ≠ t.other := by rw [Tm.namesOk, if_neg h4, if_neg h1, if_pos h]
theorem names_0 {t : Tm} (h4 : ¬ t.kind = 4) (h1 : ¬ (t.kind = 1 ∨ t.kind = 6 ∨ t.kind = 8)) (h : ¬ t.kind = 9) : t.namesOk ↔ t.name.toList = [] ∧ t.other.toList = [] := by rw [Tm.namesOk, if_neg h4, if_neg h1, if_neg h]
theorem lit_t {p : Prop} (h : p) : (true = true ↔ p) := ⟨fun _ => h, fun _ => rfl⟩
theorem lit_f {p : Prop} (h : ¬ p) : (false = true ↔ p) := ⟨fun e => (by cases e), fun e => absurd e h⟩

set_option maxRecDepth 100000 in
set_option maxHeartbeats 2000000 in
theorem namesS_any (t : Tm) (tp : Option Addr) (tc : Nat) (rp : Option Addr) (rc : Nat) (p : Option Addr) (c : Nat) (w : World) (h1 : t.name.size ≤ 9223372036854775807) (h2 : t.other.size ≤ 9223372036854775807) :
    Calls Tryd.prog 82 #[tmV t tp tc rp rc p c] w (Tells t.namesOk w) := by
  have HB := Lib.hid (al_below w (.cells (tmC t tp tc rp rc p c) 35))
  have HX := Lib.hid (Bx9.new w t tp tc rp rc p c 35)
  have HNM := Lib.hid (nmS_any t.name (w.alloc (.cells (tmC t tp tc rp rc p c) 35)) h1)
  have HNO := Lib.hid (fun W => nmS_any t.other W h2)
  have HAR := Lib.hid (opAr_range t.name.toList)
  cases hb : t.other.toList.isEmpty
  all_goals
    cases hd : t.name.toList.isEmpty
  all_goals
    have HE := Lib.hid (emp_iff t.other)
    have HN := Lib.hid (emp_iff t.name)
    rw [hb] at HE
    rw [hd] at HN
    go_enter Tryd.func82, Tryd.ntmps82
    by_cases k4 : t.kind = 4
    · have a4 : 4 ≤ t.kind := by omega
      have b4 : t.kind ≤ 4 := by omega
      have HK := Lib.hid k4
      clear k4
      by_cases ha : 0 < opAr t.name.toList
      all_goals
        go_wp2_with (first | (go_at_call 83; refine (opArS_any _ _).mono ?_; rintro e w' ⟨rfl, rfl⟩))
        go_ret
        refine ⟨_, ?_, rfl, HB.out⟩
        have h2 := HE.out
        simp only [true_iff, false_iff, Bool.false_eq_true] at h2
        rw [names_4 HK.out]
        simp [ha, h2]
    have HK4 := Lib.hid k4
    by_cases k1 : t.kind = 1 ∨ t.kind = 6 ∨ t.kind = 8
    · have HK := Lib.hid k1
      rcases k1 with k | k | k
      all_goals
        have ak := Int.le_of_eq k
        have bk := Int.le_of_eq k.symm
        clear k k4
        go_wp2_with fail
        refine HNM.out.mono ?_
        rintro e w1 ⟨r, hr, rfl, hb1⟩
        have HR := Lib.hid hr
        have HB1 := Lib.hid (HB.out.trans (hb1.mono HB.out.size))
        obtain ⟨g0, g1, g2, g3, g4, g5, g6, g7, g8⟩ := HX.out.keep hb1
        clear hr hb1
        cases r
        all_goals
          go_wp2_with fail
          go_ret
          refine ⟨_, ?_, rfl, HB1.out⟩
          have h1 := HR.out
          have h2 := HE.out
          simp only [true_iff, false_iff, Bool.false_eq_true] at h1 h2
          rw [names_1 HK4.out HK.out]
          simp [h1, h2]
    have HK1 := Lib.hid k1
    have m1 : ¬ t.kind = 1 := fun e => k1 (Or.inl e)
    have m6 : ¬ t.kind = 6 := fun e => k1 (Or.inr (Or.inl e))
    have m8 : ¬ t.kind = 8 := fun e => k1 (Or.inr (Or.inr e))
    clear k1
    by_cases k9 : t.kind = 9
    · have a9 := Int.le_of_eq k9
      have b9 := Int.le_of_eq k9.symm
      have HK := Lib.hid k9
      clear k9 k4 m1 m6 m8
      go_wp2_with fail
      refine HNM.out.mono ?_
      rintro e w1 ⟨r, hr, rfl, hb1⟩
      have HR := Lib.hid hr
      have HB1 := Lib.hid (HB.out.trans (hb1.mono HB.out.size))
      have HX1 := Lib.hid (HX.out.keep hb1)
      obtain ⟨g0, g1, g2, g3, g4, g5, g6, g7, g8⟩ := HX.out.keep hb1
      clear hr hb1
      cases r
      · go_wp2_with fail
        go_ret
        refine ⟨_, ?_, rfl, HB1.out⟩
        have h1 := HR.out
        simp only [false_iff, Bool.false_eq_true] at h1
        rw [names_9 HK4.out HK1.out HK.out]
        simp [h1]
      · go_wp2_with fail
        refine (HNO.out w1).mono ?_
        rintro e w2 ⟨r2, hr2, rfl, hb2⟩
        have HR2 := Lib.hid hr2
        have HB2 := Lib.hid (HB1.out.trans (hb2.mono HB1.out.size))
        clear g0 g1 g2 g3 g4 g5 g6 g7 g8
        obtain ⟨g0, g1, g2, g3, g4, g5, g6, g7, g8⟩ := HX1.out.keep hb2
        clear hr2 hb2
        by_cases hq : t.name = t.other
        · have hq1 := str_yes hq
          have HQ := Lib.hid hq
          clear hq
          cases r2
          all_goals
            go_wp2_with fail
            go_ret
            refine ⟨_, ?_, rfl, HB2.out⟩
            have h3 := HQ.out
            rw [names_9 HK4.out HK1.out HK.out]
            simp [h3]
        · have hq1 := str_no hq
          have HQ := Lib.hid hq
          clear hq
          cases r2
          all_goals
            go_wp2_with fail
            go_ret
            refine ⟨_, ?_, rfl, HB2.out⟩
            have h1 := HR.out
            have h2 := HR2.out
            have h3 := HQ.out
            simp only [true_iff, false_iff, Bool.false_eq_true] at h1 h2
            rw [names_9 HK4.out HK1.out HK.out]
            simp [h1, h2, h3]
    · have HK := Lib.hid k9
      go_wp2_with fail
      go_ret
      refine ⟨_, ?_, rfl, HB.out⟩
      have h1 := HN.out
      have h2 := HE.out
      simp only [true_iff, false_iff, Bool.false_eq_true] at h1 h2
      rw [names_0 HK4.out HK1.out HK.out]
      simp [h1, h2]
end Go.Proofs.YtfeijijeohfpgaaDoor
namespace Go.Proofs.YtfeijijeohfpgaaDoor
open Go Go.RowKit

def zeroT (t : Ty) : Prop := t.kind = 0 ∧ t.args.length = 0
def Tm.most (t : Tm) : Int := if t.kind = 2 then 10006 else if t.kind = 3 then 1 else 0
structure Tm.FieldsOk (t : Tm) : Prop where
  ty1 : (t.kind = 6 ∨ t.kind = 9) ↔ t.ty.valid = true
  ty2 : (t.kind = 6 ∨ t.kind = 9) ∨ zeroT t.ty
  res1 : t.kind = 9 ↔ t.res.valid = true
  res2 : t.kind = 9 ∨ zeroT t.res
  n : 0 ≤ t.n ∧ t.n ≤ t.most
  names : t.namesOk
theorem valid_lit {C : Nat → Prop} {t : Ty} {v : Value} {w : World} (h : TT w C t v) (hn : nodesS t.args ≤ 2097152) (b : Bool) (hb : t.valid = b) :
    Calls Tryd.prog 80 #[v] w fun e w' => e = .returned (.bool b) ∧ Below w.heap.size w w' := by
  refine (valid_any h hn).mono ?_
  rintro e w' ⟨r, hr, rfl, hw⟩
  exact ⟨by rw [hr, hb], hw⟩
theorem keepR {w W w1 : World} {p1 p2 p3 : Addr} {v1 v2 v3 : Value} (hb1 : Below W.heap.size W w1) (h : W.cell? p1 = some v1 ∧ W.cell? p2 = some v2 ∧ W.cell? p3 = some v3 ∧ Below w.heap.size w W) :
    w1.cell? p1 = some v1 ∧ w1.cell? p2 = some v2 ∧ w1.cell? p3 = some v3 ∧ Below w.heap.size w w1 := by
  have k : ∀ {p : Addr} {v : Value}, W.cell? p = some v → w1.cell? p = some v := fun {p v} hp => (hb1.cell (World.block_lt_of_cell? W _ hp)).trans hp
  exact ⟨k h.1, k h.2.1, k h.2.2.1, h.2.2.2.trans (hb1.mono h.2.2.2.size)⟩
theorem zeroS_yes {k : Int} {p : Option Addr} {n c : Nat} (h : k = 0 ∧ n = 0) (w : World) : Calls Tryd.prog 81 #[.agg #[.int .i64 k, .slice p n c]] w fun e w' => e = .returned (.bool true) ∧ Below w.heap.size w w' := by
  refine (zeroS_any k p n c w).mono ?_
  rintro e w' ⟨r, hr, rfl, hw⟩
  exact ⟨by rw [hr.2 h], hw⟩
theorem zeroS_no {k : Int} {p : Option Addr} {n c : Nat} (h : ¬ (k = 0 ∧ n = 0)) (w : World) : Calls Tryd.prog 81 #[.agg #[.int .i64 k, .slice p n c]] w fun e w' => e = .returned (.bool false) ∧ Below w.heap.size w w' := by
  refine (zeroS_any k p n c w).mono ?_
  rintro e w' ⟨r, hr, rfl, hw⟩
  exact ⟨by rw [Bool.eq_false_iff.2 (fun e => h (hr.1 e))], hw⟩

end Go.Proofs.YtfeijijeohfpgaaDoor
namespace Go.Proofs.YtfeijijeohfpgaaDoor
open Go Go.RowKit

set_option maxRecDepth 100000 in
set_option maxHeartbeats 8000000 in
theorem fieldsSSix {C : Nat → Prop} (t : Tm) (tp : Option Addr) (tc : Nat) (rp : Option Addr) (rc : Nat) (p : Option Addr) (c : Nat) (w : World) (hT : TM' w C t tp tc rp rc p c) (hn : t.wt ≤ 2097152) (k : t.kind = 6) :
    Calls Tryd.prog 55 #[tmV t tp tc rp rc p c] w (Tells t.FieldsOk w) := by
  have hw := t.wt_eq
  have n1 : nodesS t.ty.args ≤ 2097152 := by omega
  have n2 : nodesS t.res.args ≤ 2097152 := by omega
  have HB := Lib.hid (al_below w (.cells (tmC t tp tc rp rc p c) 35))
  have HX := Lib.hid (Bx9.new w t tp tc rp rc p c 35)
  have HTY := Lib.hid (fun (W : World) (hW : Below w.heap.size w W) => (⟨_, rfl, hT.ty.keep hW⟩ : TT W C t.ty (.agg #[.int .i64 t.ty.kind, .slice tp t.ty.args.length tc])))
  have HRS := Lib.hid (fun (W : World) (hW : Below w.heap.size w W) => (⟨_, rfl, hT.res.keep hW⟩ : TT W C t.res (.agg #[.int .i64 t.res.kind, .slice rp t.res.args.length rc])))
  have HNM := Lib.hid (fun W => namesS_any t tp tc rp rc p c W (by omega) (by omega))
  clear hT hw hn
  cases hvt : t.ty.valid
  all_goals
    cases hvr : t.res.valid
  all_goals
    have HVT := Lib.hid hvt
    have HVR0 := Lib.hid hvr
    have HVTC := Lib.hid (fun W hW => valid_lit (HTY.out W hW) n1 _ HVT.out)
    have HVRC := Lib.hid (fun W hW => valid_lit (HRS.out W hW) n2 _ HVR0.out)
    clear hvt hvr
  all_goals
    go_enter Tryd.func55, Tryd.ntmps55
  · have HK := Lib.hid k
    have ka := Int.le_of_eq k
    have kb := Int.le_of_eq k.symm
    have e9 : (t.kind == 9) = false := by simp [k]
    have n9 : (t.kind != 9) = true := by simp [k]
    have e6 : (t.kind == 6) = true := by simp [k]
    clear k ka kb
    go_wp2_with fail
    refine (HVTC.out _ HB.out).mono ?_
    rintro e w1 ⟨rfl, hb1⟩
    have HB1 := Lib.hid (HB.out.trans (hb1.mono HB.out.size))
    have HX1 := Lib.hid (HX.out.keep hb1)
    obtain ⟨g0, g1, g2, g3, g4, g5, g6, g7, g8⟩ := HX.out.keep hb1
    clear hb1
    go_wp2_with fail
    go_ret
    exact ⟨_, lit_f (fun h => by have := h.ty1.1 (Or.inl HK.out); rw [HVT.out] at this; cases this), rfl, HB1.out⟩
  · have HK := Lib.hid k
    have ka := Int.le_of_eq k
    have kb := Int.le_of_eq k.symm
    have e9 : (t.kind == 9) = false := by simp [k]
    have n9 : (t.kind != 9) = true := by simp [k]
    have e6 : (t.kind == 6) = true := by simp [k]
    clear k ka kb
    go_wp2_with fail
    refine (HVTC.out _ HB.out).mono ?_
    rintro e w1 ⟨rfl, hb1⟩
    have HB1 := Lib.hid (HB.out.trans (hb1.mono HB.out.size))
    have HX1 := Lib.hid (HX.out.keep hb1)
    obtain ⟨g0, g1, g2, g3, g4, g5, g6, g7, g8⟩ := HX.out.keep hb1
    clear hb1
    go_wp2_with fail
    go_ret
    exact ⟨_, lit_f (fun h => by have := h.ty1.1 (Or.inl HK.out); rw [HVT.out] at this; cases this), rfl, HB1.out⟩
  · have HK := Lib.hid k
    have ka := Int.le_of_eq k
    have kb := Int.le_of_eq k.symm
    have e9 : (t.kind == 9) = false := by simp [k]
    have n9 : (t.kind != 9) = true := by simp [k]
    have e6 : (t.kind == 6) = true := by simp [k]
    clear k ka kb
    go_wp2_with fail
    refine (HVTC.out _ HB.out).mono ?_
    rintro e w1 ⟨rfl, hb1⟩
    have HB1 := Lib.hid (HB.out.trans (hb1.mono HB.out.size))
    have HX1 := Lib.hid (HX.out.keep hb1)
    obtain ⟨g0, g1, g2, g3, g4, g5, g6, g7, g8⟩ := HX.out.keep hb1
    clear hb1
    have HVR := Lib.hid (HVRC.out w1.drew HB1.out.drew)
    by_cases z2 : t.res.kind = 0 ∧ t.res.args.length = 0
    · have HZ2 := Lib.hid z2
      have HZC := Lib.hid (fun W => zeroS_yes (p := rp) (c := rc) z2 W)
      clear z2
      go_wp2_with fail
      go_region_held3 (fun w' => w'.cell? ⟨w.heap.size, 0, none⟩ = some (.int .i64 t.kind) ∧ w'.cell? ⟨w.heap.size, 6, none⟩ = some (.int .i64 t.res.kind) ∧ w'.cell? ⟨w.heap.size, 7, none⟩ = some (.slice rp t.res.args.length rc) ∧ Below w.heap.size w w')
        (first
          | (go_keep; done)
          | exact ⟨g0, g6, g7, HB1.out.drew⟩
          | exact keepR hb6 (by assumption)
          | exact keepR hb5 (by assumption))
        (first
          | (go_at_call 80; refine HVR.out.mono ?_; rintro e w5 ⟨rfl, hb5⟩)
          | (go_at_call 81; refine (HZC.out _).mono ?_; rintro e w6 ⟨rfl, hb6⟩))
      rename_i hH
      clear hH
      have hbd : Below w1.heap.size w1 _ := ((Below.refl _ _).drew.trans hb5).trans (hb6.mono (by have := hb5.size; exact this))
      have HBW := Lib.hid (HB1.out.trans (hbd.mono HB1.out.size))
      clear g0 g1 g2 g3 g4 g5 g6 g7 g8
      obtain ⟨g0, g1, g2, g3, g4, g5, g6, g7, g8⟩ := HX1.out.keep hbd
      clear hbd hb5 hb6
      by_cases hin : 0 ≤ t.n ∧ t.n ≤ 0
      · have hd : decide (0 ≤ t.n ∧ t.n ≤ 0) = true := decide_eq_true hin
        have HIN := Lib.hid hin
        clear hin
        go_wp2_with fail
        refine (in_any _ _ _ _).mono ?_
        rintro e w' ⟨rfl, rfl⟩
        go_wp2_with fail
        refine (HNM.out _).mono ?_
        rintro e w9 ⟨r, hr, rfl, hb9⟩
        have HR9 := Lib.hid hr
        have HB9 := Lib.hid (HBW.out.trans (hb9.mono HBW.out.size))
        clear hr hb9
        go_wp2_with fail
        go_ret
        exact ⟨_, HR9.out.trans ⟨fun h => ⟨⟨fun _ => HVT.out, fun _ => Or.inl HK.out⟩, Or.inl (Or.inl HK.out), ⟨(fun e => by have := HK.out; omega), fun e => by rw [HVR0.out] at e; cases e⟩, Or.inr HZ2.out, by rw [Tm.most, if_neg (by have := HK.out; omega), if_neg (by have := HK.out; omega)]; exact HIN.out, h⟩, fun h => h.names⟩, rfl, HB9.out⟩
      · have hd : decide (0 ≤ t.n ∧ t.n ≤ 0) = false := decide_eq_false hin
        have HIN := Lib.hid hin
        clear hin
        go_wp2_with fail
        refine (in_any _ _ _ _).mono ?_
        rintro e w' ⟨rfl, rfl⟩
        go_wp2_with fail
        go_ret
        exact ⟨_, lit_f (fun h => HIN.out (by have := h.n; rwa [Tm.most, if_neg (by have := HK.out; omega), if_neg (by have := HK.out; omega)] at this)), rfl, HBW.out⟩
    · have HZ2 := Lib.hid z2
      have HZC := Lib.hid (fun W => zeroS_no (p := rp) (c := rc) z2 W)
      clear z2
      go_wp2_with fail
      go_region_held3 (fun w' => w'.cell? ⟨w.heap.size, 0, none⟩ = some (.int .i64 t.kind) ∧ w'.cell? ⟨w.heap.size, 6, none⟩ = some (.int .i64 t.res.kind) ∧ w'.cell? ⟨w.heap.size, 7, none⟩ = some (.slice rp t.res.args.length rc) ∧ Below w.heap.size w w')
        (first
          | (go_keep; done)
          | exact ⟨g0, g6, g7, HB1.out.drew⟩
          | exact keepR hb6 (by assumption)
          | exact keepR hb5 (by assumption))
        (first
          | (go_at_call 80; refine HVR.out.mono ?_; rintro e w5 ⟨rfl, hb5⟩)
          | (go_at_call 81; refine (HZC.out _).mono ?_; rintro e w6 ⟨rfl, hb6⟩))
      rename_i hH
      clear hH
      have hbd : Below w1.heap.size w1 _ := ((Below.refl _ _).drew.trans hb5).trans (hb6.mono (by have := hb5.size; exact this))
      have HBW := Lib.hid (HB1.out.trans (hbd.mono HB1.out.size))
      clear g0 g1 g2 g3 g4 g5 g6 g7 g8
      obtain ⟨g0, g1, g2, g3, g4, g5, g6, g7, g8⟩ := HX1.out.keep hbd
      clear hbd hb5 hb6
      go_wp2_with fail
      go_ret
      exact ⟨_, lit_f (fun h => h.res2.elim (fun e => by have := HK.out; omega) HZ2.out), rfl, HBW.out⟩
  · have HK := Lib.hid k
    have ka := Int.le_of_eq k
    have kb := Int.le_of_eq k.symm
    have e9 : (t.kind == 9) = false := by simp [k]
    have n9 : (t.kind != 9) = true := by simp [k]
    have e6 : (t.kind == 6) = true := by simp [k]
    clear k ka kb
    go_wp2_with fail
    refine (HVTC.out _ HB.out).mono ?_
    rintro e w1 ⟨rfl, hb1⟩
    have HB1 := Lib.hid (HB.out.trans (hb1.mono HB.out.size))
    have HX1 := Lib.hid (HX.out.keep hb1)
    obtain ⟨g0, g1, g2, g3, g4, g5, g6, g7, g8⟩ := HX.out.keep hb1
    clear hb1
    have HVR := Lib.hid (HVRC.out w1.drew HB1.out.drew)
    go_wp2_with fail
    refine wp_region_noPanic ?_
    refine wp_region_held_drew (S := (fun w' => w'.cell? ⟨w.heap.size, 0, none⟩ = some (.int .i64 t.kind) ∧ w'.cell? ⟨w.heap.size, 6, none⟩ = some (.int .i64 t.res.kind) ∧ w'.cell? ⟨w.heap.size, 7, none⟩ = some (.slice rp t.res.args.length rc) ∧ Below w.heap.size w w')) (by kernel_rfl) ?_ (fun hHeld => ?_)
    · try dsimp only
      exact ⟨g0, g6, g7, HB1.out.drew⟩
    refine wpAnyH_take (i := 0) (oi := ({ dst := some 28, op := Op.fieldAddr 35 (Operand.tmp 1) 0, type := 0, pos := "l05_term.go:67", after := #[], guard := none } : Oper)) (v := ?_) rfl (by kernel_rfl) (by kernel_rfl) (by kernel_rfl) (fun _ _ _ h => h) (Or.inl ⟨by rfl, ?_⟩) (by assumption) ?_
    rotate_left
    · intro w hSw
      try dsimp only at hSw
      go_simp
      try with_reducible rfl
    try simp only [Act.put, List.setIfInBounds_toArray, List.set_cons_zero, List.set_cons_succ]
    refine wpAnyH_take (i := 1) (oi := ({ dst := some 29, op := Op.load 3 (Operand.tmp 28), type := 3, pos := "l05_term.go:67", after := #[{ on := 0, ground := Ground.data }], guard := none } : Oper)) (v := ?_) rfl (by kernel_rfl) (by kernel_rfl) (by kernel_rfl) (fun _ _ _ h => h) (Or.inl ⟨by rfl, ?_⟩) (by assumption) ?_
    rotate_left
    · intro w hSw
      try dsimp only at hSw
      go_simp
      try with_reducible rfl
    try simp only [Act.put, List.setIfInBounds_toArray, List.set_cons_zero, List.set_cons_succ]
    refine wpAnyH_take (i := 2) (oi := ({ dst := some 30, op := Op.binOp BinOp.eql 3 (Operand.tmp 29) (Operand.const (Value.int IntKind.i64 9)) 3, type := 4, pos := "l05_term.go:67", after := #[{ on := 1, ground := Ground.data }], guard := none } : Oper)) (v := ?_) rfl (by kernel_rfl) (by kernel_rfl) (by kernel_rfl) (fun _ _ _ h => h) (Or.inl ⟨by rfl, ?_⟩) (by assumption) ?_
    rotate_left
    · intro w hSw
      try dsimp only at hSw
      go_simp
      try with_reducible rfl
    try simp only [Act.put, List.setIfInBounds_toArray, List.set_cons_zero, List.set_cons_succ]
    refine wpAnyH_take (i := 3) (oi := ({ dst := some 31, op := Op.fieldAddr 35 (Operand.tmp 1) 5, type := 0, pos := "l05_term.go:67", after := #[], guard := none } : Oper)) (v := ?_) rfl (by kernel_rfl) (by kernel_rfl) (by kernel_rfl) (fun _ _ _ h => h) (Or.inl ⟨by rfl, ?_⟩) (by assumption) ?_
    rotate_left
    · intro w hSw
      try dsimp only at hSw
      go_simp
      try with_reducible rfl
    try simp only [Act.put, List.setIfInBounds_toArray, List.set_cons_zero, List.set_cons_succ]
    refine wpAnyH_take (i := 4) (oi := ({ dst := some 32, op := Op.load 32 (Operand.tmp 31), type := 32, pos := "l05_term.go:67", after := #[{ on := 3, ground := Ground.data }], guard := none } : Oper)) (v := ?_) rfl (by kernel_rfl) (by kernel_rfl) (by kernel_rfl) (fun _ _ _ h => h) (Or.inl ⟨by rfl, ?_⟩) (by assumption) ?_
    rotate_left
    · intro w hSw
      try dsimp only at hSw
      go_simp
      try with_reducible rfl
    try simp only [Act.put, List.setIfInBounds_toArray, List.set_cons_zero, List.set_cons_succ]
    refine wpAnyH_ready (rs := [5]) (by kernel_rfl) (by simp) ?_
    refine AllReadyH.cons (o := ({ dst := some 33, op := Op.call { callee := Callee.value (Operand.func 80), args := #[Operand.tmp 32], argTypes := #[32] }, type := 4, pos := "l05_term.go:67", after := #[{ on := 4, ground := Ground.data }], guard := none } : Oper)) rfl (fun K hK => ?_) AllReadyH.nil
    go_simp
    (go_at_call 80; refine HVR.out.mono ?_; rintro e w5 ⟨rfl, hb5⟩)
    refine hK.out _ _ ?_ (fun hHeld1 => ?_)
    · try dsimp only
      exact keepR hb5 (by assumption)
    clear hK K
    try simp only [Act.put, List.setIfInBounds_toArray, List.set_cons_zero, List.set_cons_succ]
    refine wpAnyH_take (i := 6) (oi := ({ dst := some 34, op := Op.binOp BinOp.neq 4 (Operand.tmp 30) (Operand.tmp 33) 4, type := 4, pos := "l05_term.go:67", after := #[{ on := 2, ground := Ground.data }, { on := 5, ground := Ground.data }], guard := none } : Oper)) (v := ?_) rfl (by kernel_rfl) (by kernel_rfl) (by kernel_rfl) (fun _ _ _ h => h) (Or.inl ⟨by rfl, ?_⟩) (by assumption) ?_
    rotate_left
    · intro w hSw
      try dsimp only at hSw
      go_simp
      try with_reducible rfl
    try simp only [Act.put, List.setIfInBounds_toArray, List.set_cons_zero, List.set_cons_succ]
    refine wpAnyH_take (i := 7) (oi := ({ dst := some 35, op := Op.move (Operand.tmp 34), type := 4, pos := "l05_term.go:67", after := #[{ on := 6, ground := Ground.data }, { on := 5, ground := Ground.chain }], guard := none } : Oper)) (v := ?_) rfl (by kernel_rfl) (by kernel_rfl) (by kernel_rfl) (fun _ _ _ h => h) (Or.inl ⟨by rfl, ?_⟩) (by assumption) ?_
    rotate_left
    · intro w hSw
      try dsimp only at hSw
      go_simp
      try with_reducible rfl
    try simp only [Act.put, List.setIfInBounds_toArray, List.set_cons_zero, List.set_cons_succ]
    refine wpAnyH_take (i := 8) (oi := ({ dst := some 36, op := Op.fieldAddr 35 (Operand.tmp 1) 0, type := 0, pos := "l05_term.go:67", after := #[{ on := 7, ground := Ground.guard }], guard := some (7, false) } : Oper)) (v := undef) rfl (by kernel_rfl) (by kernel_rfl) (by kernel_rfl) (fun _ _ _ h => h) (Or.inr ⟨by rfl, rfl⟩) (by assumption) ?_
    try simp only [Act.put, List.setIfInBounds_toArray, List.set_cons_zero, List.set_cons_succ]
    refine wpAnyH_take (i := 9) (oi := ({ dst := some 37, op := Op.load 3 (Operand.tmp 36), type := 3, pos := "l05_term.go:67", after := #[{ on := 8, ground := Ground.data }, { on := 7, ground := Ground.guard }], guard := some (7, false) } : Oper)) (v := undef) rfl (by kernel_rfl) (by kernel_rfl) (by kernel_rfl) (fun _ _ _ h => h) (Or.inr ⟨by rfl, rfl⟩) (by assumption) ?_
    try simp only [Act.put, List.setIfInBounds_toArray, List.set_cons_zero, List.set_cons_succ]
    refine wpAnyH_take (i := 10) (oi := ({ dst := some 38, op := Op.binOp BinOp.neq 3 (Operand.tmp 37) (Operand.const (Value.int IntKind.i64 9)) 3, type := 4, pos := "l05_term.go:67", after := #[{ on := 9, ground := Ground.data }, { on := 7, ground := Ground.guard }], guard := some (7, false) } : Oper)) (v := undef) rfl (by kernel_rfl) (by kernel_rfl) (by kernel_rfl) (fun _ _ _ h => h) (Or.inr ⟨by rfl, rfl⟩) (by assumption) ?_
    try simp only [Act.put, List.setIfInBounds_toArray, List.set_cons_zero, List.set_cons_succ]
    refine wpAnyH_take (i := 11) (oi := ({ dst := some 39, op := Op.move (Operand.tmp 38), type := 4, pos := "l05_term.go:67", after := #[{ on := 10, ground := Ground.data }, { on := 7, ground := Ground.chain }, { on := 7, ground := Ground.guard }], guard := some (7, false) } : Oper)) (v := undef) rfl (by kernel_rfl) (by kernel_rfl) (by kernel_rfl) (fun _ _ _ h => h) (Or.inr ⟨by rfl, rfl⟩) (by assumption) ?_
    try simp only [Act.put, List.setIfInBounds_toArray, List.set_cons_zero, List.set_cons_succ]
    refine wpAnyH_take (i := 12) (oi := ({ dst := some 40, op := Op.fieldAddr 35 (Operand.tmp 1) 5, type := 0, pos := "l05_term.go:67", after := #[{ on := 11, ground := Ground.guard }], guard := some (11, true) } : Oper)) (v := undef) rfl (by kernel_rfl) (by kernel_rfl) (by kernel_rfl) (fun _ _ _ h => h) (Or.inr ⟨by rfl, rfl⟩) (by assumption) ?_
    try simp only [Act.put, List.setIfInBounds_toArray, List.set_cons_zero, List.set_cons_succ]
    refine wpAnyH_take (i := 13) (oi := ({ dst := some 41, op := Op.load 32 (Operand.tmp 40), type := 32, pos := "l05_term.go:67", after := #[{ on := 12, ground := Ground.data }, { on := 11, ground := Ground.guard }], guard := some (11, true) } : Oper)) (v := undef) rfl (by kernel_rfl) (by kernel_rfl) (by kernel_rfl) (fun _ _ _ h => h) (Or.inr ⟨by rfl, rfl⟩) (by assumption) ?_
    try simp only [Act.put, List.setIfInBounds_toArray, List.set_cons_zero, List.set_cons_succ]
    refine wpAnyH_take (i := 14) (oi := ({ dst := some 42, op := Op.call { callee := Callee.value (Operand.func 81), args := #[Operand.tmp 41], argTypes := #[32] }, type := 4, pos := "l05_term.go:67", after := #[{ on := 13, ground := Ground.data }, { on := 11, ground := Ground.chain }, { on := 11, ground := Ground.guard }], guard := some (11, true) } : Oper)) (v := undef) rfl (by kernel_rfl) (by kernel_rfl) (by kernel_rfl) (fun _ _ _ h => h) (Or.inr ⟨by rfl, rfl⟩) (by assumption) ?_
    try simp only [Act.put, List.setIfInBounds_toArray, List.set_cons_zero, List.set_cons_succ]
    refine wpAnyH_take (i := 15) (oi := ({ dst := some 43, op := Op.unOp UnOp.not 4 (Operand.tmp 42), type := 4, pos := "l05_term.go:67", after := #[{ on := 14, ground := Ground.data }, { on := 11, ground := Ground.guard }], guard := some (11, true) } : Oper)) (v := undef) rfl (by kernel_rfl) (by kernel_rfl) (by kernel_rfl) (fun _ _ _ h => h) (Or.inr ⟨by rfl, rfl⟩) (by assumption) ?_
    try simp only [Act.put, List.setIfInBounds_toArray, List.set_cons_zero, List.set_cons_succ]
    refine wpAnyH_take (i := 16) (oi := ({ dst := some 44, op := Op.pick (Operand.tmp 39) (Operand.tmp 43) (Operand.const (Value.bool false)), type := 4, pos := "l05_term.go:67", after := #[{ on := 11, ground := Ground.data }, { on := 15, ground := Ground.data }, { on := 7, ground := Ground.guard }], guard := some (7, false) } : Oper)) (v := undef) rfl (by kernel_rfl) (by kernel_rfl) (by kernel_rfl) (fun _ _ _ h => h) (Or.inr ⟨by rfl, rfl⟩) (by assumption) ?_
    try simp only [Act.put, List.setIfInBounds_toArray, List.set_cons_zero, List.set_cons_succ]
    refine wpAnyH_take (i := 17) (oi := ({ dst := some 45, op := Op.pick (Operand.tmp 35) (Operand.const (Value.bool true)) (Operand.tmp 44), type := 4, pos := "l05_term.go:67", after := #[{ on := 7, ground := Ground.data }, { on := 16, ground := Ground.data }], guard := none } : Oper)) (v := ?_) rfl (by kernel_rfl) (by kernel_rfl) (by kernel_rfl) (fun _ _ _ h => h) (Or.inl ⟨by rfl, ?_⟩) (by assumption) ?_
    rotate_left
    · intro w hSw
      try dsimp only at hSw
      go_simp
      try with_reducible rfl
    try simp only [Act.put, List.setIfInBounds_toArray, List.set_cons_zero, List.set_cons_succ]
    refine wpAnyH_done (by kernel_rfl) ?_ _
    refine NoPanic.normal ?_
    clear hHeld hHeld1
    have HBW := Lib.hid (HB1.out.trans (((Below.refl _ _).drew.trans hb5).mono HB1.out.size))
    clear hb5
    go_wp2_with fail
    go_ret
    exact ⟨_, lit_f (fun h => by have := h.res1.2 HVR0.out; have := HK.out; omega), rfl, HBW.out⟩
end Go.Proofs.YtfeijijeohfpgaaDoor
namespace Go.Proofs.YtfeijijeohfpgaaDoor
open Go Go.RowKit

set_option maxRecDepth 100000 in
set_option maxHeartbeats 8000000 in
theorem fieldsSNine {C : Nat → Prop} (t : Tm) (tp : Option Addr) (tc : Nat) (rp : Option Addr) (rc : Nat) (p : Option Addr) (c : Nat) (w : World) (hT : TM' w C t tp tc rp rc p c) (hn : t.wt ≤ 2097152) (k : t.kind = 9) :
    Calls Tryd.prog 55 #[tmV t tp tc rp rc p c] w (Tells t.FieldsOk w) := by
  have hw := t.wt_eq
  have n1 : nodesS t.ty.args ≤ 2097152 := by omega
  have n2 : nodesS t.res.args ≤ 2097152 := by omega
  have HB := Lib.hid (al_below w (.cells (tmC t tp tc rp rc p c) 35))
  have HX := Lib.hid (Bx9.new w t tp tc rp rc p c 35)
  have HTY := Lib.hid (fun (W : World) (hW : Below w.heap.size w W) => (⟨_, rfl, hT.ty.keep hW⟩ : TT W C t.ty (.agg #[.int .i64 t.ty.kind, .slice tp t.ty.args.length tc])))
  have HRS := Lib.hid (fun (W : World) (hW : Below w.heap.size w W) => (⟨_, rfl, hT.res.keep hW⟩ : TT W C t.res (.agg #[.int .i64 t.res.kind, .slice rp t.res.args.length rc])))
  have HNM := Lib.hid (fun W => namesS_any t tp tc rp rc p c W (by omega) (by omega))
  clear hT hw hn
  cases hvt : t.ty.valid
  all_goals
    cases hvr : t.res.valid
  all_goals
    have HVT := Lib.hid hvt
    have HVR0 := Lib.hid hvr
    have HVTC := Lib.hid (fun W hW => valid_lit (HTY.out W hW) n1 _ HVT.out)
    have HVRC := Lib.hid (fun W hW => valid_lit (HRS.out W hW) n2 _ HVR0.out)
    clear hvt hvr
  all_goals
    go_enter Tryd.func55, Tryd.ntmps55
  · have HK := Lib.hid k
    have ka := Int.le_of_eq k
    have kb := Int.le_of_eq k.symm
    have e9 : (t.kind == 9) = true := by simp [k]
    have n9 : (t.kind != 9) = false := by simp [k]
    have e6 : (t.kind == 6) = false := by simp [k]
    clear k ka kb
    go_wp2_with fail
    refine (HVTC.out _ HB.out).mono ?_
    rintro e w1 ⟨rfl, hb1⟩
    have HB1 := Lib.hid (HB.out.trans (hb1.mono HB.out.size))
    have HX1 := Lib.hid (HX.out.keep hb1)
    obtain ⟨g0, g1, g2, g3, g4, g5, g6, g7, g8⟩ := HX.out.keep hb1
    clear hb1
    go_wp2_with fail
    go_ret
    exact ⟨_, lit_f (fun h => by have := h.ty1.1 (Or.inr HK.out); rw [HVT.out] at this; cases this), rfl, HB1.out⟩
  · have HK := Lib.hid k
    have ka := Int.le_of_eq k
    have kb := Int.le_of_eq k.symm
    have e9 : (t.kind == 9) = true := by simp [k]
    have n9 : (t.kind != 9) = false := by simp [k]
    have e6 : (t.kind == 6) = false := by simp [k]
    clear k ka kb
    go_wp2_with fail
    refine (HVTC.out _ HB.out).mono ?_
    rintro e w1 ⟨rfl, hb1⟩
    have HB1 := Lib.hid (HB.out.trans (hb1.mono HB.out.size))
    have HX1 := Lib.hid (HX.out.keep hb1)
    obtain ⟨g0, g1, g2, g3, g4, g5, g6, g7, g8⟩ := HX.out.keep hb1
    clear hb1
    go_wp2_with fail
    go_ret
    exact ⟨_, lit_f (fun h => by have := h.ty1.1 (Or.inr HK.out); rw [HVT.out] at this; cases this), rfl, HB1.out⟩
  · have HK := Lib.hid k
    have ka := Int.le_of_eq k
    have kb := Int.le_of_eq k.symm
    have e9 : (t.kind == 9) = true := by simp [k]
    have n9 : (t.kind != 9) = false := by simp [k]
    have e6 : (t.kind == 6) = false := by simp [k]
    clear k ka kb
    go_wp2_with fail
    refine (HVTC.out _ HB.out).mono ?_
    rintro e w1 ⟨rfl, hb1⟩
    have HB1 := Lib.hid (HB.out.trans (hb1.mono HB.out.size))
    have HX1 := Lib.hid (HX.out.keep hb1)
    obtain ⟨g0, g1, g2, g3, g4, g5, g6, g7, g8⟩ := HX.out.keep hb1
    clear hb1
    have HVR := Lib.hid (HVRC.out w1.drew HB1.out.drew)
    go_wp2_with fail
    refine wp_region_noPanic ?_
    refine wp_region_held_drew (S := (fun w' => w'.cell? ⟨w.heap.size, 0, none⟩ = some (.int .i64 t.kind) ∧ w'.cell? ⟨w.heap.size, 6, none⟩ = some (.int .i64 t.res.kind) ∧ w'.cell? ⟨w.heap.size, 7, none⟩ = some (.slice rp t.res.args.length rc) ∧ Below w.heap.size w w')) (by kernel_rfl) ?_ (fun hHeld => ?_)
    · try dsimp only
      exact ⟨g0, g6, g7, HB1.out.drew⟩
    refine wpAnyH_take (i := 0) (oi := ({ dst := some 28, op := Op.fieldAddr 35 (Operand.tmp 1) 0, type := 0, pos := "l05_term.go:67", after := #[], guard := none } : Oper)) (v := ?_) rfl (by kernel_rfl) (by kernel_rfl) (by kernel_rfl) (fun _ _ _ h => h) (Or.inl ⟨by rfl, ?_⟩) (by assumption) ?_
    rotate_left
    · intro w hSw
      try dsimp only at hSw
      go_simp
      try with_reducible rfl
    try simp only [Act.put, List.setIfInBounds_toArray, List.set_cons_zero, List.set_cons_succ]
    refine wpAnyH_take (i := 1) (oi := ({ dst := some 29, op := Op.load 3 (Operand.tmp 28), type := 3, pos := "l05_term.go:67", after := #[{ on := 0, ground := Ground.data }], guard := none } : Oper)) (v := ?_) rfl (by kernel_rfl) (by kernel_rfl) (by kernel_rfl) (fun _ _ _ h => h) (Or.inl ⟨by rfl, ?_⟩) (by assumption) ?_
    rotate_left
    · intro w hSw
      try dsimp only at hSw
      go_simp
      try with_reducible rfl
    try simp only [Act.put, List.setIfInBounds_toArray, List.set_cons_zero, List.set_cons_succ]
    refine wpAnyH_take (i := 2) (oi := ({ dst := some 30, op := Op.binOp BinOp.eql 3 (Operand.tmp 29) (Operand.const (Value.int IntKind.i64 9)) 3, type := 4, pos := "l05_term.go:67", after := #[{ on := 1, ground := Ground.data }], guard := none } : Oper)) (v := ?_) rfl (by kernel_rfl) (by kernel_rfl) (by kernel_rfl) (fun _ _ _ h => h) (Or.inl ⟨by rfl, ?_⟩) (by assumption) ?_
    rotate_left
    · intro w hSw
      try dsimp only at hSw
      go_simp
      try with_reducible rfl
    try simp only [Act.put, List.setIfInBounds_toArray, List.set_cons_zero, List.set_cons_succ]
    refine wpAnyH_take (i := 3) (oi := ({ dst := some 31, op := Op.fieldAddr 35 (Operand.tmp 1) 5, type := 0, pos := "l05_term.go:67", after := #[], guard := none } : Oper)) (v := ?_) rfl (by kernel_rfl) (by kernel_rfl) (by kernel_rfl) (fun _ _ _ h => h) (Or.inl ⟨by rfl, ?_⟩) (by assumption) ?_
    rotate_left
    · intro w hSw
      try dsimp only at hSw
      go_simp
      try with_reducible rfl
    try simp only [Act.put, List.setIfInBounds_toArray, List.set_cons_zero, List.set_cons_succ]
    refine wpAnyH_take (i := 4) (oi := ({ dst := some 32, op := Op.load 32 (Operand.tmp 31), type := 32, pos := "l05_term.go:67", after := #[{ on := 3, ground := Ground.data }], guard := none } : Oper)) (v := ?_) rfl (by kernel_rfl) (by kernel_rfl) (by kernel_rfl) (fun _ _ _ h => h) (Or.inl ⟨by rfl, ?_⟩) (by assumption) ?_
    rotate_left
    · intro w hSw
      try dsimp only at hSw
      go_simp
      try with_reducible rfl
    try simp only [Act.put, List.setIfInBounds_toArray, List.set_cons_zero, List.set_cons_succ]
    refine wpAnyH_ready (rs := [5]) (by kernel_rfl) (by simp) ?_
    refine AllReadyH.cons (o := ({ dst := some 33, op := Op.call { callee := Callee.value (Operand.func 80), args := #[Operand.tmp 32], argTypes := #[32] }, type := 4, pos := "l05_term.go:67", after := #[{ on := 4, ground := Ground.data }], guard := none } : Oper)) rfl (fun K hK => ?_) AllReadyH.nil
    go_simp
    (go_at_call 80; refine HVR.out.mono ?_; rintro e w5 ⟨rfl, hb5⟩)
    refine hK.out _ _ ?_ (fun hHeld1 => ?_)
    · try dsimp only
      exact keepR hb5 (by assumption)
    clear hK K
    try simp only [Act.put, List.setIfInBounds_toArray, List.set_cons_zero, List.set_cons_succ]
    refine wpAnyH_take (i := 6) (oi := ({ dst := some 34, op := Op.binOp BinOp.neq 4 (Operand.tmp 30) (Operand.tmp 33) 4, type := 4, pos := "l05_term.go:67", after := #[{ on := 2, ground := Ground.data }, { on := 5, ground := Ground.data }], guard := none } : Oper)) (v := ?_) rfl (by kernel_rfl) (by kernel_rfl) (by kernel_rfl) (fun _ _ _ h => h) (Or.inl ⟨by rfl, ?_⟩) (by assumption) ?_
    rotate_left
    · intro w hSw
      try dsimp only at hSw
      go_simp
      try with_reducible rfl
    try simp only [Act.put, List.setIfInBounds_toArray, List.set_cons_zero, List.set_cons_succ]
    refine wpAnyH_take (i := 7) (oi := ({ dst := some 35, op := Op.move (Operand.tmp 34), type := 4, pos := "l05_term.go:67", after := #[{ on := 6, ground := Ground.data }, { on := 5, ground := Ground.chain }], guard := none } : Oper)) (v := ?_) rfl (by kernel_rfl) (by kernel_rfl) (by kernel_rfl) (fun _ _ _ h => h) (Or.inl ⟨by rfl, ?_⟩) (by assumption) ?_
    rotate_left
    · intro w hSw
      try dsimp only at hSw
      go_simp
      try with_reducible rfl
    try simp only [Act.put, List.setIfInBounds_toArray, List.set_cons_zero, List.set_cons_succ]
    refine wpAnyH_take (i := 8) (oi := ({ dst := some 36, op := Op.fieldAddr 35 (Operand.tmp 1) 0, type := 0, pos := "l05_term.go:67", after := #[{ on := 7, ground := Ground.guard }], guard := some (7, false) } : Oper)) (v := undef) rfl (by kernel_rfl) (by kernel_rfl) (by kernel_rfl) (fun _ _ _ h => h) (Or.inr ⟨by rfl, rfl⟩) (by assumption) ?_
    try simp only [Act.put, List.setIfInBounds_toArray, List.set_cons_zero, List.set_cons_succ]
    refine wpAnyH_take (i := 9) (oi := ({ dst := some 37, op := Op.load 3 (Operand.tmp 36), type := 3, pos := "l05_term.go:67", after := #[{ on := 8, ground := Ground.data }, { on := 7, ground := Ground.guard }], guard := some (7, false) } : Oper)) (v := undef) rfl (by kernel_rfl) (by kernel_rfl) (by kernel_rfl) (fun _ _ _ h => h) (Or.inr ⟨by rfl, rfl⟩) (by assumption) ?_
    try simp only [Act.put, List.setIfInBounds_toArray, List.set_cons_zero, List.set_cons_succ]
    refine wpAnyH_take (i := 10) (oi := ({ dst := some 38, op := Op.binOp BinOp.neq 3 (Operand.tmp 37) (Operand.const (Value.int IntKind.i64 9)) 3, type := 4, pos := "l05_term.go:67", after := #[{ on := 9, ground := Ground.data }, { on := 7, ground := Ground.guard }], guard := some (7, false) } : Oper)) (v := undef) rfl (by kernel_rfl) (by kernel_rfl) (by kernel_rfl) (fun _ _ _ h => h) (Or.inr ⟨by rfl, rfl⟩) (by assumption) ?_
    try simp only [Act.put, List.setIfInBounds_toArray, List.set_cons_zero, List.set_cons_succ]
    refine wpAnyH_take (i := 11) (oi := ({ dst := some 39, op := Op.move (Operand.tmp 38), type := 4, pos := "l05_term.go:67", after := #[{ on := 10, ground := Ground.data }, { on := 7, ground := Ground.chain }, { on := 7, ground := Ground.guard }], guard := some (7, false) } : Oper)) (v := undef) rfl (by kernel_rfl) (by kernel_rfl) (by kernel_rfl) (fun _ _ _ h => h) (Or.inr ⟨by rfl, rfl⟩) (by assumption) ?_
    try simp only [Act.put, List.setIfInBounds_toArray, List.set_cons_zero, List.set_cons_succ]
    refine wpAnyH_take (i := 12) (oi := ({ dst := some 40, op := Op.fieldAddr 35 (Operand.tmp 1) 5, type := 0, pos := "l05_term.go:67", after := #[{ on := 11, ground := Ground.guard }], guard := some (11, true) } : Oper)) (v := undef) rfl (by kernel_rfl) (by kernel_rfl) (by kernel_rfl) (fun _ _ _ h => h) (Or.inr ⟨by rfl, rfl⟩) (by assumption) ?_
    try simp only [Act.put, List.setIfInBounds_toArray, List.set_cons_zero, List.set_cons_succ]
    refine wpAnyH_take (i := 13) (oi := ({ dst := some 41, op := Op.load 32 (Operand.tmp 40), type := 32, pos := "l05_term.go:67", after := #[{ on := 12, ground := Ground.data }, { on := 11, ground := Ground.guard }], guard := some (11, true) } : Oper)) (v := undef) rfl (by kernel_rfl) (by kernel_rfl) (by kernel_rfl) (fun _ _ _ h => h) (Or.inr ⟨by rfl, rfl⟩) (by assumption) ?_
    try simp only [Act.put, List.setIfInBounds_toArray, List.set_cons_zero, List.set_cons_succ]
    refine wpAnyH_take (i := 14) (oi := ({ dst := some 42, op := Op.call { callee := Callee.value (Operand.func 81), args := #[Operand.tmp 41], argTypes := #[32] }, type := 4, pos := "l05_term.go:67", after := #[{ on := 13, ground := Ground.data }, { on := 11, ground := Ground.chain }, { on := 11, ground := Ground.guard }], guard := some (11, true) } : Oper)) (v := undef) rfl (by kernel_rfl) (by kernel_rfl) (by kernel_rfl) (fun _ _ _ h => h) (Or.inr ⟨by rfl, rfl⟩) (by assumption) ?_
    try simp only [Act.put, List.setIfInBounds_toArray, List.set_cons_zero, List.set_cons_succ]
    refine wpAnyH_take (i := 15) (oi := ({ dst := some 43, op := Op.unOp UnOp.not 4 (Operand.tmp 42), type := 4, pos := "l05_term.go:67", after := #[{ on := 14, ground := Ground.data }, { on := 11, ground := Ground.guard }], guard := some (11, true) } : Oper)) (v := undef) rfl (by kernel_rfl) (by kernel_rfl) (by kernel_rfl) (fun _ _ _ h => h) (Or.inr ⟨by rfl, rfl⟩) (by assumption) ?_
    try simp only [Act.put, List.setIfInBounds_toArray, List.set_cons_zero, List.set_cons_succ]
    refine wpAnyH_take (i := 16) (oi := ({ dst := some 44, op := Op.pick (Operand.tmp 39) (Operand.tmp 43) (Operand.const (Value.bool false)), type := 4, pos := "l05_term.go:67", after := #[{ on := 11, ground := Ground.data }, { on := 15, ground := Ground.data }, { on := 7, ground := Ground.guard }], guard := some (7, false) } : Oper)) (v := undef) rfl (by kernel_rfl) (by kernel_rfl) (by kernel_rfl) (fun _ _ _ h => h) (Or.inr ⟨by rfl, rfl⟩) (by assumption) ?_
    try simp only [Act.put, List.setIfInBounds_toArray, List.set_cons_zero, List.set_cons_succ]
    refine wpAnyH_take (i := 17) (oi := ({ dst := some 45, op := Op.pick (Operand.tmp 35) (Operand.const (Value.bool true)) (Operand.tmp 44), type := 4, pos := "l05_term.go:67", after := #[{ on := 7, ground := Ground.data }, { on := 16, ground := Ground.data }], guard := none } : Oper)) (v := ?_) rfl (by kernel_rfl) (by kernel_rfl) (by kernel_rfl) (fun _ _ _ h => h) (Or.inl ⟨by rfl, ?_⟩) (by assumption) ?_
    rotate_left
    · intro w hSw
      try dsimp only at hSw
      go_simp
      try with_reducible rfl
    try simp only [Act.put, List.setIfInBounds_toArray, List.set_cons_zero, List.set_cons_succ]
    refine wpAnyH_done (by kernel_rfl) ?_ _
    refine NoPanic.normal ?_
    clear hHeld hHeld1
    have HBW := Lib.hid (HB1.out.trans (((Below.refl _ _).drew.trans hb5).mono HB1.out.size))
    clear hb5
    go_wp2_with fail
    go_ret
    exact ⟨_, lit_f (fun h => by have := h.res1.1 HK.out; rw [HVR0.out] at this; cases this), rfl, HBW.out⟩
  · have HK := Lib.hid k
    have ka := Int.le_of_eq k
    have kb := Int.le_of_eq k.symm
    have e9 : (t.kind == 9) = true := by simp [k]
    have n9 : (t.kind != 9) = false := by simp [k]
    have e6 : (t.kind == 6) = false := by simp [k]
    clear k ka kb
    go_wp2_with fail
    refine (HVTC.out _ HB.out).mono ?_
    rintro e w1 ⟨rfl, hb1⟩
    have HB1 := Lib.hid (HB.out.trans (hb1.mono HB.out.size))
    have HX1 := Lib.hid (HX.out.keep hb1)
    obtain ⟨g0, g1, g2, g3, g4, g5, g6, g7, g8⟩ := HX.out.keep hb1
    clear hb1
    have HVR := Lib.hid (HVRC.out w1.drew HB1.out.drew)
    go_wp2_with fail
    refine wp_region_noPanic ?_
    refine wp_region_held_drew (S := (fun w' => w'.cell? ⟨w.heap.size, 0, none⟩ = some (.int .i64 t.kind) ∧ w'.cell? ⟨w.heap.size, 6, none⟩ = some (.int .i64 t.res.kind) ∧ w'.cell? ⟨w.heap.size, 7, none⟩ = some (.slice rp t.res.args.length rc) ∧ Below w.heap.size w w')) (by kernel_rfl) ?_ (fun hHeld => ?_)
    · try dsimp only
      exact ⟨g0, g6, g7, HB1.out.drew⟩
    refine wpAnyH_take (i := 0) (oi := ({ dst := some 28, op := Op.fieldAddr 35 (Operand.tmp 1) 0, type := 0, pos := "l05_term.go:67", after := #[], guard := none } : Oper)) (v := ?_) rfl (by kernel_rfl) (by kernel_rfl) (by kernel_rfl) (fun _ _ _ h => h) (Or.inl ⟨by rfl, ?_⟩) (by assumption) ?_
    rotate_left
    · intro w hSw
      try dsimp only at hSw
      go_simp
      try with_reducible rfl
    try simp only [Act.put, List.setIfInBounds_toArray, List.set_cons_zero, List.set_cons_succ]
    refine wpAnyH_take (i := 1) (oi := ({ dst := some 29, op := Op.load 3 (Operand.tmp 28), type := 3, pos := "l05_term.go:67", after := #[{ on := 0, ground := Ground.data }], guard := none } : Oper)) (v := ?_) rfl (by kernel_rfl) (by kernel_rfl) (by kernel_rfl) (fun _ _ _ h => h) (Or.inl ⟨by rfl, ?_⟩) (by assumption) ?_
    rotate_left
    · intro w hSw
      try dsimp only at hSw
      go_simp
      try with_reducible rfl
    try simp only [Act.put, List.setIfInBounds_toArray, List.set_cons_zero, List.set_cons_succ]
    refine wpAnyH_take (i := 2) (oi := ({ dst := some 30, op := Op.binOp BinOp.eql 3 (Operand.tmp 29) (Operand.const (Value.int IntKind.i64 9)) 3, type := 4, pos := "l05_term.go:67", after := #[{ on := 1, ground := Ground.data }], guard := none } : Oper)) (v := ?_) rfl (by kernel_rfl) (by kernel_rfl) (by kernel_rfl) (fun _ _ _ h => h) (Or.inl ⟨by rfl, ?_⟩) (by assumption) ?_
    rotate_left
    · intro w hSw
      try dsimp only at hSw
      go_simp
      try with_reducible rfl
    try simp only [Act.put, List.setIfInBounds_toArray, List.set_cons_zero, List.set_cons_succ]
    refine wpAnyH_take (i := 3) (oi := ({ dst := some 31, op := Op.fieldAddr 35 (Operand.tmp 1) 5, type := 0, pos := "l05_term.go:67", after := #[], guard := none } : Oper)) (v := ?_) rfl (by kernel_rfl) (by kernel_rfl) (by kernel_rfl) (fun _ _ _ h => h) (Or.inl ⟨by rfl, ?_⟩) (by assumption) ?_
    rotate_left
    · intro w hSw
      try dsimp only at hSw
      go_simp
      try with_reducible rfl
    try simp only [Act.put, List.setIfInBounds_toArray, List.set_cons_zero, List.set_cons_succ]
    refine wpAnyH_take (i := 4) (oi := ({ dst := some 32, op := Op.load 32 (Operand.tmp 31), type := 32, pos := "l05_term.go:67", after := #[{ on := 3, ground := Ground.data }], guard := none } : Oper)) (v := ?_) rfl (by kernel_rfl) (by kernel_rfl) (by kernel_rfl) (fun _ _ _ h => h) (Or.inl ⟨by rfl, ?_⟩) (by assumption) ?_
    rotate_left
    · intro w hSw
      try dsimp only at hSw
      go_simp
      try with_reducible rfl
    try simp only [Act.put, List.setIfInBounds_toArray, List.set_cons_zero, List.set_cons_succ]
    refine wpAnyH_ready (rs := [5]) (by kernel_rfl) (by simp) ?_
    refine AllReadyH.cons (o := ({ dst := some 33, op := Op.call { callee := Callee.value (Operand.func 80), args := #[Operand.tmp 32], argTypes := #[32] }, type := 4, pos := "l05_term.go:67", after := #[{ on := 4, ground := Ground.data }], guard := none } : Oper)) rfl (fun K hK => ?_) AllReadyH.nil
    go_simp
    (go_at_call 80; refine HVR.out.mono ?_; rintro e w5 ⟨rfl, hb5⟩)
    refine hK.out _ _ ?_ (fun hHeld1 => ?_)
    · try dsimp only
      exact keepR hb5 (by assumption)
    clear hK K
    try simp only [Act.put, List.setIfInBounds_toArray, List.set_cons_zero, List.set_cons_succ]
    refine wpAnyH_take (i := 6) (oi := ({ dst := some 34, op := Op.binOp BinOp.neq 4 (Operand.tmp 30) (Operand.tmp 33) 4, type := 4, pos := "l05_term.go:67", after := #[{ on := 2, ground := Ground.data }, { on := 5, ground := Ground.data }], guard := none } : Oper)) (v := ?_) rfl (by kernel_rfl) (by kernel_rfl) (by kernel_rfl) (fun _ _ _ h => h) (Or.inl ⟨by rfl, ?_⟩) (by assumption) ?_
    rotate_left
    · intro w hSw
      try dsimp only at hSw
      go_simp
      try with_reducible rfl
    try simp only [Act.put, List.setIfInBounds_toArray, List.set_cons_zero, List.set_cons_succ]
    refine wpAnyH_take (i := 7) (oi := ({ dst := some 35, op := Op.move (Operand.tmp 34), type := 4, pos := "l05_term.go:67", after := #[{ on := 6, ground := Ground.data }, { on := 5, ground := Ground.chain }], guard := none } : Oper)) (v := ?_) rfl (by kernel_rfl) (by kernel_rfl) (by kernel_rfl) (fun _ _ _ h => h) (Or.inl ⟨by rfl, ?_⟩) (by assumption) ?_
    rotate_left
    · intro w hSw
      try dsimp only at hSw
      go_simp
      try with_reducible rfl
    try simp only [Act.put, List.setIfInBounds_toArray, List.set_cons_zero, List.set_cons_succ]
    refine wpAnyH_take (i := 8) (oi := ({ dst := some 36, op := Op.fieldAddr 35 (Operand.tmp 1) 0, type := 0, pos := "l05_term.go:67", after := #[{ on := 7, ground := Ground.guard }], guard := some (7, false) } : Oper)) (v := ?_) rfl (by kernel_rfl) (by kernel_rfl) (by kernel_rfl) (fun _ _ _ h => h) (Or.inl ⟨by rfl, ?_⟩) (by assumption) ?_
    rotate_left
    · intro w hSw
      try dsimp only at hSw
      go_simp
      try with_reducible rfl
    try simp only [Act.put, List.setIfInBounds_toArray, List.set_cons_zero, List.set_cons_succ]
    refine wpAnyH_take (i := 9) (oi := ({ dst := some 37, op := Op.load 3 (Operand.tmp 36), type := 3, pos := "l05_term.go:67", after := #[{ on := 8, ground := Ground.data }, { on := 7, ground := Ground.guard }], guard := some (7, false) } : Oper)) (v := ?_) rfl (by kernel_rfl) (by kernel_rfl) (by kernel_rfl) (fun _ _ _ h => h) (Or.inl ⟨by rfl, ?_⟩) (by assumption) ?_
    rotate_left
    · intro w hSw
      try dsimp only at hSw
      go_simp
      try with_reducible rfl
    try simp only [Act.put, List.setIfInBounds_toArray, List.set_cons_zero, List.set_cons_succ]
    refine wpAnyH_take (i := 10) (oi := ({ dst := some 38, op := Op.binOp BinOp.neq 3 (Operand.tmp 37) (Operand.const (Value.int IntKind.i64 9)) 3, type := 4, pos := "l05_term.go:67", after := #[{ on := 9, ground := Ground.data }, { on := 7, ground := Ground.guard }], guard := some (7, false) } : Oper)) (v := ?_) rfl (by kernel_rfl) (by kernel_rfl) (by kernel_rfl) (fun _ _ _ h => h) (Or.inl ⟨by rfl, ?_⟩) (by assumption) ?_
    rotate_left
    · intro w hSw
      try dsimp only at hSw
      go_simp
      try with_reducible rfl
    try simp only [Act.put, List.setIfInBounds_toArray, List.set_cons_zero, List.set_cons_succ]
    refine wpAnyH_take (i := 11) (oi := ({ dst := some 39, op := Op.move (Operand.tmp 38), type := 4, pos := "l05_term.go:67", after := #[{ on := 10, ground := Ground.data }, { on := 7, ground := Ground.chain }, { on := 7, ground := Ground.guard }], guard := some (7, false) } : Oper)) (v := ?_) rfl (by kernel_rfl) (by kernel_rfl) (by kernel_rfl) (fun _ _ _ h => h) (Or.inl ⟨by rfl, ?_⟩) (by assumption) ?_
    rotate_left
    · intro w hSw
      try dsimp only at hSw
      go_simp
      try with_reducible rfl
    try simp only [Act.put, List.setIfInBounds_toArray, List.set_cons_zero, List.set_cons_succ]
    refine wpAnyH_take (i := 12) (oi := ({ dst := some 40, op := Op.fieldAddr 35 (Operand.tmp 1) 5, type := 0, pos := "l05_term.go:67", after := #[{ on := 11, ground := Ground.guard }], guard := some (11, true) } : Oper)) (v := undef) rfl (by kernel_rfl) (by kernel_rfl) (by kernel_rfl) (fun _ _ _ h => h) (Or.inr ⟨by rfl, rfl⟩) (by assumption) ?_
    try simp only [Act.put, List.setIfInBounds_toArray, List.set_cons_zero, List.set_cons_succ]
    refine wpAnyH_take (i := 13) (oi := ({ dst := some 41, op := Op.load 32 (Operand.tmp 40), type := 32, pos := "l05_term.go:67", after := #[{ on := 12, ground := Ground.data }, { on := 11, ground := Ground.guard }], guard := some (11, true) } : Oper)) (v := undef) rfl (by kernel_rfl) (by kernel_rfl) (by kernel_rfl) (fun _ _ _ h => h) (Or.inr ⟨by rfl, rfl⟩) (by assumption) ?_
    try simp only [Act.put, List.setIfInBounds_toArray, List.set_cons_zero, List.set_cons_succ]
    refine wpAnyH_take (i := 14) (oi := ({ dst := some 42, op := Op.call { callee := Callee.value (Operand.func 81), args := #[Operand.tmp 41], argTypes := #[32] }, type := 4, pos := "l05_term.go:67", after := #[{ on := 13, ground := Ground.data }, { on := 11, ground := Ground.chain }, { on := 11, ground := Ground.guard }], guard := some (11, true) } : Oper)) (v := undef) rfl (by kernel_rfl) (by kernel_rfl) (by kernel_rfl) (fun _ _ _ h => h) (Or.inr ⟨by rfl, rfl⟩) (by assumption) ?_
    try simp only [Act.put, List.setIfInBounds_toArray, List.set_cons_zero, List.set_cons_succ]
    refine wpAnyH_take (i := 15) (oi := ({ dst := some 43, op := Op.unOp UnOp.not 4 (Operand.tmp 42), type := 4, pos := "l05_term.go:67", after := #[{ on := 14, ground := Ground.data }, { on := 11, ground := Ground.guard }], guard := some (11, true) } : Oper)) (v := undef) rfl (by kernel_rfl) (by kernel_rfl) (by kernel_rfl) (fun _ _ _ h => h) (Or.inr ⟨by rfl, rfl⟩) (by assumption) ?_
    try simp only [Act.put, List.setIfInBounds_toArray, List.set_cons_zero, List.set_cons_succ]
    refine wpAnyH_take (i := 16) (oi := ({ dst := some 44, op := Op.pick (Operand.tmp 39) (Operand.tmp 43) (Operand.const (Value.bool false)), type := 4, pos := "l05_term.go:67", after := #[{ on := 11, ground := Ground.data }, { on := 15, ground := Ground.data }, { on := 7, ground := Ground.guard }], guard := some (7, false) } : Oper)) (v := ?_) rfl (by kernel_rfl) (by kernel_rfl) (by kernel_rfl) (fun _ _ _ h => h) (Or.inl ⟨by rfl, ?_⟩) (by assumption) ?_
    rotate_left
    · intro w hSw
      try dsimp only at hSw
      go_simp
      try with_reducible rfl
    try simp only [Act.put, List.setIfInBounds_toArray, List.set_cons_zero, List.set_cons_succ]
    refine wpAnyH_take (i := 17) (oi := ({ dst := some 45, op := Op.pick (Operand.tmp 35) (Operand.const (Value.bool true)) (Operand.tmp 44), type := 4, pos := "l05_term.go:67", after := #[{ on := 7, ground := Ground.data }, { on := 16, ground := Ground.data }], guard := none } : Oper)) (v := ?_) rfl (by kernel_rfl) (by kernel_rfl) (by kernel_rfl) (fun _ _ _ h => h) (Or.inl ⟨by rfl, ?_⟩) (by assumption) ?_
    rotate_left
    · intro w hSw
      try dsimp only at hSw
      go_simp
      try with_reducible rfl
    try simp only [Act.put, List.setIfInBounds_toArray, List.set_cons_zero, List.set_cons_succ]
    refine wpAnyH_done (by kernel_rfl) ?_ _
    refine NoPanic.normal ?_
    clear hHeld hHeld1
    have hbd : Below w1.heap.size w1 _ := (Below.refl _ _).drew.trans hb5
    have HBW := Lib.hid (HB1.out.trans (hbd.mono HB1.out.size))
    clear g0 g1 g2 g3 g4 g5 g6 g7 g8
    obtain ⟨g0, g1, g2, g3, g4, g5, g6, g7, g8⟩ := HX1.out.keep hbd
    clear hbd hb5
    by_cases hin : 0 ≤ t.n ∧ t.n ≤ 0
    · have hd : decide (0 ≤ t.n ∧ t.n ≤ 0) = true := decide_eq_true hin
      have HIN := Lib.hid hin
      clear hin
      go_wp2_with fail
      refine (in_any _ _ _ _).mono ?_
      rintro e w' ⟨rfl, rfl⟩
      go_wp2_with fail
      refine (HNM.out _).mono ?_
      rintro e w9 ⟨r, hr, rfl, hb9⟩
      have HR9 := Lib.hid hr
      have HB9 := Lib.hid (HBW.out.trans (hb9.mono HBW.out.size))
      clear hr hb9
      go_wp2_with fail
      go_ret
      exact ⟨_, HR9.out.trans ⟨fun h => ⟨⟨fun _ => HVT.out, fun _ => Or.inr HK.out⟩, Or.inl (Or.inr HK.out), ⟨fun _ => HVR0.out, fun _ => HK.out⟩, Or.inl HK.out, by rw [Tm.most, if_neg (by have := HK.out; omega), if_neg (by have := HK.out; omega)]; exact HIN.out, h⟩, fun h => h.names⟩, rfl, HB9.out⟩
    · have hd : decide (0 ≤ t.n ∧ t.n ≤ 0) = false := decide_eq_false hin
      have HIN := Lib.hid hin
      clear hin
      go_wp2_with fail
      refine (in_any _ _ _ _).mono ?_
      rintro e w' ⟨rfl, rfl⟩
      go_wp2_with fail
      go_ret
      exact ⟨_, lit_f (fun h => HIN.out (by have := h.n; rwa [Tm.most, if_neg (by have := HK.out; omega), if_neg (by have := HK.out; omega)] at this)), rfl, HBW.out⟩
end Go.Proofs.YtfeijijeohfpgaaDoor
namespace Go.Proofs.YtfeijijeohfpgaaDoor
open Go Go.RowKit

set_option maxRecDepth 100000 in
set_option maxHeartbeats 8000000 in
theorem fieldsSOth {C : Nat → Prop} (t : Tm) (tp : Option Addr) (tc : Nat) (rp : Option Addr) (rc : Nat) (p : Option Addr) (c : Nat) (w : World) (hT : TM' w C t tp tc rp rc p c) (hn : t.wt ≤ 2097152) (k : ¬ t.kind = 6 ∧ ¬ t.kind = 9) :
    Calls Tryd.prog 55 #[tmV t tp tc rp rc p c] w (Tells t.FieldsOk w) := by
  have hw := t.wt_eq
  have n1 : nodesS t.ty.args ≤ 2097152 := by omega
  have n2 : nodesS t.res.args ≤ 2097152 := by omega
  have HB := Lib.hid (al_below w (.cells (tmC t tp tc rp rc p c) 35))
  have HX := Lib.hid (Bx9.new w t tp tc rp rc p c 35)
  have HTY := Lib.hid (fun (W : World) (hW : Below w.heap.size w W) => (⟨_, rfl, hT.ty.keep hW⟩ : TT W C t.ty (.agg #[.int .i64 t.ty.kind, .slice tp t.ty.args.length tc])))
  have HRS := Lib.hid (fun (W : World) (hW : Below w.heap.size w W) => (⟨_, rfl, hT.res.keep hW⟩ : TT W C t.res (.agg #[.int .i64 t.res.kind, .slice rp t.res.args.length rc])))
  have HNM := Lib.hid (fun W => namesS_any t tp tc rp rc p c W (by omega) (by omega))
  clear hT hw hn
  cases hvt : t.ty.valid
  all_goals
    cases hvr : t.res.valid
  all_goals
    have HVT := Lib.hid hvt
    have HVR0 := Lib.hid hvr
    have HVTC := Lib.hid (fun W hW => valid_lit (HTY.out W hW) n1 _ HVT.out)
    have HVRC := Lib.hid (fun W hW => valid_lit (HRS.out W hW) n2 _ HVR0.out)
    clear hvt hvr
  all_goals
    go_enter Tryd.func55, Tryd.ntmps55
  · obtain ⟨k6, k9⟩ := k
    have HK6 := Lib.hid k6
    have HK9 := Lib.hid k9
    have e6 : (t.kind == 6) = false := by simpa using k6
    have e9 : (t.kind == 9) = false := by simpa using k9
    have n9 : (t.kind != 9) = true := by simpa using k9
    clear k6 k9
    go_wp2_with fail
    refine (HVTC.out _ HB.out).mono ?_
    rintro e w1 ⟨rfl, hb1⟩
    have HB1 := Lib.hid (HB.out.trans (hb1.mono HB.out.size))
    have HX1 := Lib.hid (HX.out.keep hb1)
    obtain ⟨g0, g1, g2, g3, g4, g5, g6, g7, g8⟩ := HX.out.keep hb1
    clear hb1
    by_cases z1 : t.ty.kind = 0 ∧ t.ty.args.length = 0
    · have HZ1 := Lib.hid z1
      have HZC1 := Lib.hid (fun W => zeroS_yes (p := tp) (c := tc) z1 W)
      clear z1
      go_wp2_with fail
      refine (HZC1.out _).mono ?_
      rintro e w2 ⟨rfl, hb2⟩
      have HB2 := Lib.hid (HB1.out.trans (hb2.mono HB1.out.size))
      have HX2 := Lib.hid (HX1.out.keep hb2)
      clear g0 g1 g2 g3 g4 g5 g6 g7 g8
      obtain ⟨g0, g1, g2, g3, g4, g5, g6, g7, g8⟩ := HX1.out.keep hb2
      clear hb2
      have HVR := Lib.hid (HVRC.out w2.drew HB2.out.drew)
      by_cases z2 : t.res.kind = 0 ∧ t.res.args.length = 0
      · have HZ2 := Lib.hid z2
        have HZC := Lib.hid (fun W => zeroS_yes (p := rp) (c := rc) z2 W)
        clear z2
        go_wp2_with fail
        go_region_held3 (fun w' => w'.cell? ⟨w.heap.size, 0, none⟩ = some (.int .i64 t.kind) ∧ w'.cell? ⟨w.heap.size, 6, none⟩ = some (.int .i64 t.res.kind) ∧ w'.cell? ⟨w.heap.size, 7, none⟩ = some (.slice rp t.res.args.length rc) ∧ Below w.heap.size w w')
          (first
            | (go_keep; done)
            | exact ⟨g0, g6, g7, HB2.out.drew⟩
            | exact keepR hb6 (by assumption)
            | exact keepR hb5 (by assumption))
          (first
            | (go_at_call 80; refine HVR.out.mono ?_; rintro e w5 ⟨rfl, hb5⟩)
            | (go_at_call 81; refine (HZC.out _).mono ?_; rintro e w6 ⟨rfl, hb6⟩))
        rename_i hH
        clear hH
        have hbd : Below w2.heap.size w2 _ := ((Below.refl _ _).drew.trans hb5).trans (hb6.mono (by have := hb5.size; exact this))
        have HBW := Lib.hid (HB2.out.trans (hbd.mono HB2.out.size))
        clear g0 g1 g2 g3 g4 g5 g6 g7 g8
        obtain ⟨g0, g1, g2, g3, g4, g5, g6, g7, g8⟩ := HX2.out.keep hbd
        clear hbd hb5 hb6
        by_cases m2 : t.kind = 2
        · have HM2 := Lib.hid m2
          have ma := Int.le_of_eq m2
          have mb := Int.le_of_eq m2.symm
          clear m2
          by_cases hin : 0 ≤ t.n ∧ t.n ≤ 10006
          · have hd : decide (0 ≤ t.n ∧ t.n ≤ 10006) = true := decide_eq_true hin
            have HIN := Lib.hid hin
            clear hin
            go_wp2_with fail
            refine (in_any _ _ _ _).mono ?_
            rintro e w' ⟨rfl, rfl⟩
            go_wp2_with fail
            refine (HNM.out _).mono ?_
            rintro e w9 ⟨r, hr, rfl, hb9⟩
            have HR9 := Lib.hid hr
            have HB9 := Lib.hid (HBW.out.trans (hb9.mono HBW.out.size))
            clear hr hb9
            go_wp2_with fail
            go_ret
            exact ⟨_, HR9.out.trans ⟨fun h => ⟨⟨fun e => e.elim (fun e => absurd e HK6.out) (fun e => absurd e HK9.out), fun e => by rw [HVT.out] at e; cases e⟩, Or.inr HZ1.out, ⟨(fun e => absurd e HK9.out), fun e => by rw [HVR0.out] at e; cases e⟩, Or.inr HZ2.out, by rw [Tm.most, if_pos HM2.out]; exact HIN.out, h⟩, fun h => h.names⟩, rfl, HB9.out⟩
          · have hd : decide (0 ≤ t.n ∧ t.n ≤ 10006) = false := decide_eq_false hin
            have HIN := Lib.hid hin
            clear hin
            go_wp2_with fail
            refine (in_any _ _ _ _).mono ?_
            rintro e w' ⟨rfl, rfl⟩
            go_wp2_with fail
            go_ret
            exact ⟨_, lit_f (fun h => HIN.out (by have := h.n; rwa [Tm.most, if_pos HM2.out] at this)), rfl, HBW.out⟩
        have HM2 := Lib.hid m2
        by_cases m3 : t.kind = 3
        · have HM3 := Lib.hid m3
          have ma := Int.le_of_eq m3
          have mb := Int.le_of_eq m3.symm
          clear m3
          by_cases hin : 0 ≤ t.n ∧ t.n ≤ 1
          · have hd : decide (0 ≤ t.n ∧ t.n ≤ 1) = true := decide_eq_true hin
            have HIN := Lib.hid hin
            clear hin
            go_wp2_with fail
            refine (in_any _ _ _ _).mono ?_
            rintro e w' ⟨rfl, rfl⟩
            go_wp2_with fail
            refine (HNM.out _).mono ?_
            rintro e w9 ⟨r, hr, rfl, hb9⟩
            have HR9 := Lib.hid hr
            have HB9 := Lib.hid (HBW.out.trans (hb9.mono HBW.out.size))
            clear hr hb9
            go_wp2_with fail
            go_ret
            exact ⟨_, HR9.out.trans ⟨fun h => ⟨⟨fun e => e.elim (fun e => absurd e HK6.out) (fun e => absurd e HK9.out), fun e => by rw [HVT.out] at e; cases e⟩, Or.inr HZ1.out, ⟨(fun e => absurd e HK9.out), fun e => by rw [HVR0.out] at e; cases e⟩, Or.inr HZ2.out, by rw [Tm.most, if_neg HM2.out, if_pos HM3.out]; exact HIN.out, h⟩, fun h => h.names⟩, rfl, HB9.out⟩
          · have hd : decide (0 ≤ t.n ∧ t.n ≤ 1) = false := decide_eq_false hin
            have HIN := Lib.hid hin
            clear hin
            go_wp2_with fail
            refine (in_any _ _ _ _).mono ?_
            rintro e w' ⟨rfl, rfl⟩
            go_wp2_with fail
            go_ret
            exact ⟨_, lit_f (fun h => HIN.out (by have := h.n; rwa [Tm.most, if_neg HM2.out, if_pos HM3.out] at this)), rfl, HBW.out⟩
        have HM3 := Lib.hid m3
        by_cases hin : 0 ≤ t.n ∧ t.n ≤ 0
        · have hd : decide (0 ≤ t.n ∧ t.n ≤ 0) = true := decide_eq_true hin
          have HIN := Lib.hid hin
          clear hin
          go_wp2_with fail
          refine (in_any _ _ _ _).mono ?_
          rintro e w' ⟨rfl, rfl⟩
          go_wp2_with fail
          refine (HNM.out _).mono ?_
          rintro e w9 ⟨r, hr, rfl, hb9⟩
          have HR9 := Lib.hid hr
          have HB9 := Lib.hid (HBW.out.trans (hb9.mono HBW.out.size))
          clear hr hb9
          go_wp2_with fail
          go_ret
          exact ⟨_, HR9.out.trans ⟨fun h => ⟨⟨fun e => e.elim (fun e => absurd e HK6.out) (fun e => absurd e HK9.out), fun e => by rw [HVT.out] at e; cases e⟩, Or.inr HZ1.out, ⟨(fun e => absurd e HK9.out), fun e => by rw [HVR0.out] at e; cases e⟩, Or.inr HZ2.out, by rw [Tm.most, if_neg HM2.out, if_neg HM3.out]; exact HIN.out, h⟩, fun h => h.names⟩, rfl, HB9.out⟩
        · have hd : decide (0 ≤ t.n ∧ t.n ≤ 0) = false := decide_eq_false hin
          have HIN := Lib.hid hin
          clear hin
          go_wp2_with fail
          refine (in_any _ _ _ _).mono ?_
          rintro e w' ⟨rfl, rfl⟩
          go_wp2_with fail
          go_ret
          exact ⟨_, lit_f (fun h => HIN.out (by have := h.n; rwa [Tm.most, if_neg HM2.out, if_neg HM3.out] at this)), rfl, HBW.out⟩
      · have HZ2 := Lib.hid z2
        have HZC := Lib.hid (fun W => zeroS_no (p := rp) (c := rc) z2 W)
        clear z2
        go_wp2_with fail
        go_region_held3 (fun w' => w'.cell? ⟨w.heap.size, 0, none⟩ = some (.int .i64 t.kind) ∧ w'.cell? ⟨w.heap.size, 6, none⟩ = some (.int .i64 t.res.kind) ∧ w'.cell? ⟨w.heap.size, 7, none⟩ = some (.slice rp t.res.args.length rc) ∧ Below w.heap.size w w')
          (first
            | (go_keep; done)
            | exact ⟨g0, g6, g7, HB2.out.drew⟩
            | exact keepR hb6 (by assumption)
            | exact keepR hb5 (by assumption))
          (first
            | (go_at_call 80; refine HVR.out.mono ?_; rintro e w5 ⟨rfl, hb5⟩)
            | (go_at_call 81; refine (HZC.out _).mono ?_; rintro e w6 ⟨rfl, hb6⟩))
        rename_i hH
        clear hH
        have hbd : Below w2.heap.size w2 _ := ((Below.refl _ _).drew.trans hb5).trans (hb6.mono (by have := hb5.size; exact this))
        have HBW := Lib.hid (HB2.out.trans (hbd.mono HB2.out.size))
        clear g0 g1 g2 g3 g4 g5 g6 g7 g8
        obtain ⟨g0, g1, g2, g3, g4, g5, g6, g7, g8⟩ := HX2.out.keep hbd
        clear hbd hb5 hb6
        go_wp2_with fail
        go_ret
        exact ⟨_, lit_f (fun h => h.res2.elim HK9.out HZ2.out), rfl, HBW.out⟩
    · have HZ1 := Lib.hid z1
      have HZC1 := Lib.hid (fun W => zeroS_no (p := tp) (c := tc) z1 W)
      clear z1
      go_wp2_with fail
      refine (HZC1.out _).mono ?_
      rintro e w2 ⟨rfl, hb2⟩
      have HB2 := Lib.hid (HB1.out.trans (hb2.mono HB1.out.size))
      have HX2 := Lib.hid (HX1.out.keep hb2)
      clear g0 g1 g2 g3 g4 g5 g6 g7 g8
      obtain ⟨g0, g1, g2, g3, g4, g5, g6, g7, g8⟩ := HX1.out.keep hb2
      clear hb2
      go_wp2_with fail
      go_ret
      exact ⟨_, lit_f (fun h => h.ty2.elim (fun e => e.elim HK6.out HK9.out) HZ1.out), rfl, HB2.out⟩
  · obtain ⟨k6, k9⟩ := k
    have HK6 := Lib.hid k6
    have HK9 := Lib.hid k9
    have e6 : (t.kind == 6) = false := by simpa using k6
    have e9 : (t.kind == 9) = false := by simpa using k9
    have n9 : (t.kind != 9) = true := by simpa using k9
    clear k6 k9
    go_wp2_with fail
    refine (HVTC.out _ HB.out).mono ?_
    rintro e w1 ⟨rfl, hb1⟩
    have HB1 := Lib.hid (HB.out.trans (hb1.mono HB.out.size))
    have HX1 := Lib.hid (HX.out.keep hb1)
    obtain ⟨g0, g1, g2, g3, g4, g5, g6, g7, g8⟩ := HX.out.keep hb1
    clear hb1
    by_cases z1 : t.ty.kind = 0 ∧ t.ty.args.length = 0
    · have HZ1 := Lib.hid z1
      have HZC1 := Lib.hid (fun W => zeroS_yes (p := tp) (c := tc) z1 W)
      clear z1
      go_wp2_with fail
      refine (HZC1.out _).mono ?_
      rintro e w2 ⟨rfl, hb2⟩
      have HB2 := Lib.hid (HB1.out.trans (hb2.mono HB1.out.size))
      have HX2 := Lib.hid (HX1.out.keep hb2)
      clear g0 g1 g2 g3 g4 g5 g6 g7 g8
      obtain ⟨g0, g1, g2, g3, g4, g5, g6, g7, g8⟩ := HX1.out.keep hb2
      clear hb2
      have HVR := Lib.hid (HVRC.out w2.drew HB2.out.drew)
      go_wp2_with fail
      refine wp_region_noPanic ?_
      refine wp_region_held_drew (S := (fun w' => w'.cell? ⟨w.heap.size, 0, none⟩ = some (.int .i64 t.kind) ∧ w'.cell? ⟨w.heap.size, 6, none⟩ = some (.int .i64 t.res.kind) ∧ w'.cell? ⟨w.heap.size, 7, none⟩ = some (.slice rp t.res.args.length rc) ∧ Below w.heap.size w w')) (by kernel_rfl) ?_ (fun hHeld => ?_)
      · try dsimp only
        exact ⟨g0, g6, g7, HB2.out.drew⟩
      refine wpAnyH_take (i := 0) (oi := ({ dst := some 28, op := Op.fieldAddr 35 (Operand.tmp 1) 0, type := 0, pos := "l05_term.go:67", after := #[], guard := none } : Oper)) (v := ?_) rfl (by kernel_rfl) (by kernel_rfl) (by kernel_rfl) (fun _ _ _ h => h) (Or.inl ⟨by rfl, ?_⟩) (by assumption) ?_
      rotate_left
      · intro w hSw
        try dsimp only at hSw
        go_simp
        try with_reducible rfl
      try simp only [Act.put, List.setIfInBounds_toArray, List.set_cons_zero, List.set_cons_succ]
      refine wpAnyH_take (i := 1) (oi := ({ dst := some 29, op := Op.load 3 (Operand.tmp 28), type := 3, pos := "l05_term.go:67", after := #[{ on := 0, ground := Ground.data }], guard := none } : Oper)) (v := ?_) rfl (by kernel_rfl) (by kernel_rfl) (by kernel_rfl) (fun _ _ _ h => h) (Or.inl ⟨by rfl, ?_⟩) (by assumption) ?_
      rotate_left
      · intro w hSw
        try dsimp only at hSw
        go_simp
        try with_reducible rfl
      try simp only [Act.put, List.setIfInBounds_toArray, List.set_cons_zero, List.set_cons_succ]
      refine wpAnyH_take (i := 2) (oi := ({ dst := some 30, op := Op.binOp BinOp.eql 3 (Operand.tmp 29) (Operand.const (Value.int IntKind.i64 9)) 3, type := 4, pos := "l05_term.go:67", after := #[{ on := 1, ground := Ground.data }], guard := none } : Oper)) (v := ?_) rfl (by kernel_rfl) (by kernel_rfl) (by kernel_rfl) (fun _ _ _ h => h) (Or.inl ⟨by rfl, ?_⟩) (by assumption) ?_
      rotate_left
      · intro w hSw
        try dsimp only at hSw
        go_simp
        try with_reducible rfl
      try simp only [Act.put, List.setIfInBounds_toArray, List.set_cons_zero, List.set_cons_succ]
      refine wpAnyH_take (i := 3) (oi := ({ dst := some 31, op := Op.fieldAddr 35 (Operand.tmp 1) 5, type := 0, pos := "l05_term.go:67", after := #[], guard := none } : Oper)) (v := ?_) rfl (by kernel_rfl) (by kernel_rfl) (by kernel_rfl) (fun _ _ _ h => h) (Or.inl ⟨by rfl, ?_⟩) (by assumption) ?_
      rotate_left
      · intro w hSw
        try dsimp only at hSw
        go_simp
        try with_reducible rfl
      try simp only [Act.put, List.setIfInBounds_toArray, List.set_cons_zero, List.set_cons_succ]
      refine wpAnyH_take (i := 4) (oi := ({ dst := some 32, op := Op.load 32 (Operand.tmp 31), type := 32, pos := "l05_term.go:67", after := #[{ on := 3, ground := Ground.data }], guard := none } : Oper)) (v := ?_) rfl (by kernel_rfl) (by kernel_rfl) (by kernel_rfl) (fun _ _ _ h => h) (Or.inl ⟨by rfl, ?_⟩) (by assumption) ?_
      rotate_left
      · intro w hSw
        try dsimp only at hSw
        go_simp
        try with_reducible rfl
      try simp only [Act.put, List.setIfInBounds_toArray, List.set_cons_zero, List.set_cons_succ]
      refine wpAnyH_ready (rs := [5]) (by kernel_rfl) (by simp) ?_
      refine AllReadyH.cons (o := ({ dst := some 33, op := Op.call { callee := Callee.value (Operand.func 80), args := #[Operand.tmp 32], argTypes := #[32] }, type := 4, pos := "l05_term.go:67", after := #[{ on := 4, ground := Ground.data }], guard := none } : Oper)) rfl (fun K hK => ?_) AllReadyH.nil
      go_simp
      (go_at_call 80; refine HVR.out.mono ?_; rintro e w5 ⟨rfl, hb5⟩)
      refine hK.out _ _ ?_ (fun hHeld1 => ?_)
      · try dsimp only
        exact keepR hb5 (by assumption)
      clear hK K
      try simp only [Act.put, List.setIfInBounds_toArray, List.set_cons_zero, List.set_cons_succ]
      refine wpAnyH_take (i := 6) (oi := ({ dst := some 34, op := Op.binOp BinOp.neq 4 (Operand.tmp 30) (Operand.tmp 33) 4, type := 4, pos := "l05_term.go:67", after := #[{ on := 2, ground := Ground.data }, { on := 5, ground := Ground.data }], guard := none } : Oper)) (v := ?_) rfl (by kernel_rfl) (by kernel_rfl) (by kernel_rfl) (fun _ _ _ h => h) (Or.inl ⟨by rfl, ?_⟩) (by assumption) ?_
      rotate_left
      · intro w hSw
        try dsimp only at hSw
        go_simp
        try with_reducible rfl
      try simp only [Act.put, List.setIfInBounds_toArray, List.set_cons_zero, List.set_cons_succ]
      refine wpAnyH_take (i := 7) (oi := ({ dst := some 35, op := Op.move (Operand.tmp 34), type := 4, pos := "l05_term.go:67", after := #[{ on := 6, ground := Ground.data }, { on := 5, ground := Ground.chain }], guard := none } : Oper)) (v := ?_) rfl (by kernel_rfl) (by kernel_rfl) (by kernel_rfl) (fun _ _ _ h => h) (Or.inl ⟨by rfl, ?_⟩) (by assumption) ?_
      rotate_left
      · intro w hSw
        try dsimp only at hSw
        go_simp
        try with_reducible rfl
      try simp only [Act.put, List.setIfInBounds_toArray, List.set_cons_zero, List.set_cons_succ]
      refine wpAnyH_take (i := 8) (oi := ({ dst := some 36, op := Op.fieldAddr 35 (Operand.tmp 1) 0, type := 0, pos := "l05_term.go:67", after := #[{ on := 7, ground := Ground.guard }], guard := some (7, false) } : Oper)) (v := undef) rfl (by kernel_rfl) (by kernel_rfl) (by kernel_rfl) (fun _ _ _ h => h) (Or.inr ⟨by rfl, rfl⟩) (by assumption) ?_
      try simp only [Act.put, List.setIfInBounds_toArray, List.set_cons_zero, List.set_cons_succ]
      refine wpAnyH_take (i := 9) (oi := ({ dst := some 37, op := Op.load 3 (Operand.tmp 36), type := 3, pos := "l05_term.go:67", after := #[{ on := 8, ground := Ground.data }, { on := 7, ground := Ground.guard }], guard := some (7, false) } : Oper)) (v := undef) rfl (by kernel_rfl) (by kernel_rfl) (by kernel_rfl) (fun _ _ _ h => h) (Or.inr ⟨by rfl, rfl⟩) (by assumption) ?_
      try simp only [Act.put, List.setIfInBounds_toArray, List.set_cons_zero, List.set_cons_succ]
      refine wpAnyH_take (i := 10) (oi := ({ dst := some 38, op := Op.binOp BinOp.neq 3 (Operand.tmp 37) (Operand.const (Value.int IntKind.i64 9)) 3, type := 4, pos := "l05_term.go:67", after := #[{ on := 9, ground := Ground.data }, { on := 7, ground := Ground.guard }], guard := some (7, false) } : Oper)) (v := undef) rfl (by kernel_rfl) (by kernel_rfl) (by kernel_rfl) (fun _ _ _ h => h) (Or.inr ⟨by rfl, rfl⟩) (by assumption) ?_
      try simp only [Act.put, List.setIfInBounds_toArray, List.set_cons_zero, List.set_cons_succ]
      refine wpAnyH_take (i := 11) (oi := ({ dst := some 39, op := Op.move (Operand.tmp 38), type := 4, pos := "l05_term.go:67", after := #[{ on := 10, ground := Ground.data }, { on := 7, ground := Ground.chain }, { on := 7, ground := Ground.guard }], guard := some (7, false) } : Oper)) (v := undef) rfl (by kernel_rfl) (by kernel_rfl) (by kernel_rfl) (fun _ _ _ h => h) (Or.inr ⟨by rfl, rfl⟩) (by assumption) ?_
      try simp only [Act.put, List.setIfInBounds_toArray, List.set_cons_zero, List.set_cons_succ]
      refine wpAnyH_take (i := 12) (oi := ({ dst := some 40, op := Op.fieldAddr 35 (Operand.tmp 1) 5, type := 0, pos := "l05_term.go:67", after := #[{ on := 11, ground := Ground.guard }], guard := some (11, true) } : Oper)) (v := undef) rfl (by kernel_rfl) (by kernel_rfl) (by kernel_rfl) (fun _ _ _ h => h) (Or.inr ⟨by rfl, rfl⟩) (by assumption) ?_
      try simp only [Act.put, List.setIfInBounds_toArray, List.set_cons_zero, List.set_cons_succ]
      refine wpAnyH_take (i := 13) (oi := ({ dst := some 41, op := Op.load 32 (Operand.tmp 40), type := 32, pos := "l05_term.go:67", after := #[{ on := 12, ground := Ground.data }, { on := 11, ground := Ground.guard }], guard := some (11, true) } : Oper)) (v := undef) rfl (by kernel_rfl) (by kernel_rfl) (by kernel_rfl) (fun _ _ _ h => h) (Or.inr ⟨by rfl, rfl⟩) (by assumption) ?_
      try simp only [Act.put, List.setIfInBounds_toArray, List.set_cons_zero, List.set_cons_succ]
      refine wpAnyH_take (i := 14) (oi := ({ dst := some 42, op := Op.call { callee := Callee.value (Operand.func 81), args := #[Operand.tmp 41], argTypes := #[32] }, type := 4, pos := "l05_term.go:67", after := #[{ on := 13, ground := Ground.data }, { on := 11, ground := Ground.chain }, { on := 11, ground := Ground.guard }], guard := some (11, true) } : Oper)) (v := undef) rfl (by kernel_rfl) (by kernel_rfl) (by kernel_rfl) (fun _ _ _ h => h) (Or.inr ⟨by rfl, rfl⟩) (by assumption) ?_
      try simp only [Act.put, List.setIfInBounds_toArray, List.set_cons_zero, List.set_cons_succ]
      refine wpAnyH_take (i := 15) (oi := ({ dst := some 43, op := Op.unOp UnOp.not 4 (Operand.tmp 42), type := 4, pos := "l05_term.go:67", after := #[{ on := 14, ground := Ground.data }, { on := 11, ground := Ground.guard }], guard := some (11, true) } : Oper)) (v := undef) rfl (by kernel_rfl) (by kernel_rfl) (by kernel_rfl) (fun _ _ _ h => h) (Or.inr ⟨by rfl, rfl⟩) (by assumption) ?_
      try simp only [Act.put, List.setIfInBounds_toArray, List.set_cons_zero, List.set_cons_succ]
      refine wpAnyH_take (i := 16) (oi := ({ dst := some 44, op := Op.pick (Operand.tmp 39) (Operand.tmp 43) (Operand.const (Value.bool false)), type := 4, pos := "l05_term.go:67", after := #[{ on := 11, ground := Ground.data }, { on := 15, ground := Ground.data }, { on := 7, ground := Ground.guard }], guard := some (7, false) } : Oper)) (v := undef) rfl (by kernel_rfl) (by kernel_rfl) (by kernel_rfl) (fun _ _ _ h => h) (Or.inr ⟨by rfl, rfl⟩) (by assumption) ?_
      try simp only [Act.put, List.setIfInBounds_toArray, List.set_cons_zero, List.set_cons_succ]
      refine wpAnyH_take (i := 17) (oi := ({ dst := some 45, op := Op.pick (Operand.tmp 35) (Operand.const (Value.bool true)) (Operand.tmp 44), type := 4, pos := "l05_term.go:67", after := #[{ on := 7, ground := Ground.data }, { on := 16, ground := Ground.data }], guard := none } : Oper)) (v := ?_) rfl (by kernel_rfl) (by kernel_rfl) (by kernel_rfl) (fun _ _ _ h => h) (Or.inl ⟨by rfl, ?_⟩) (by assumption) ?_
      rotate_left
      · intro w hSw
        try dsimp only at hSw
        go_simp
        try with_reducible rfl
      try simp only [Act.put, List.setIfInBounds_toArray, List.set_cons_zero, List.set_cons_succ]
      refine wpAnyH_done (by kernel_rfl) ?_ _
      refine NoPanic.normal ?_
      clear hHeld hHeld1
      have HBW := Lib.hid (HB2.out.trans (((Below.refl _ _).drew.trans hb5).mono HB2.out.size))
      clear hb5
      go_wp2_with fail
      go_ret
      exact ⟨_, lit_f (fun h => by have := h.res1.2 HVR0.out; exact HK9.out this), rfl, HBW.out⟩
    · have HZ1 := Lib.hid z1
      have HZC1 := Lib.hid (fun W => zeroS_no (p := tp) (c := tc) z1 W)
      clear z1
      go_wp2_with fail
      refine (HZC1.out _).mono ?_
      rintro e w2 ⟨rfl, hb2⟩
      have HB2 := Lib.hid (HB1.out.trans (hb2.mono HB1.out.size))
      have HX2 := Lib.hid (HX1.out.keep hb2)
      clear g0 g1 g2 g3 g4 g5 g6 g7 g8
      obtain ⟨g0, g1, g2, g3, g4, g5, g6, g7, g8⟩ := HX1.out.keep hb2
      clear hb2
      go_wp2_with fail
      go_ret
      exact ⟨_, lit_f (fun h => h.ty2.elim (fun e => e.elim HK6.out HK9.out) HZ1.out), rfl, HB2.out⟩
  · obtain ⟨k6, k9⟩ := k
    have HK6 := Lib.hid k6
    have HK9 := Lib.hid k9
    have e6 : (t.kind == 6) = false := by simpa using k6
    have e9 : (t.kind == 9) = false := by simpa using k9
    have n9 : (t.kind != 9) = true := by simpa using k9
    clear k6 k9
    go_wp2_with fail
    refine (HVTC.out _ HB.out).mono ?_
    rintro e w1 ⟨rfl, hb1⟩
    have HB1 := Lib.hid (HB.out.trans (hb1.mono HB.out.size))
    have HX1 := Lib.hid (HX.out.keep hb1)
    obtain ⟨g0, g1, g2, g3, g4, g5, g6, g7, g8⟩ := HX.out.keep hb1
    clear hb1
    go_wp2_with fail
    go_ret
    exact ⟨_, lit_f (fun h => (h.ty1.2 HVT.out).elim HK6.out HK9.out), rfl, HB1.out⟩
  · obtain ⟨k6, k9⟩ := k
    have HK6 := Lib.hid k6
    have HK9 := Lib.hid k9
    have e6 : (t.kind == 6) = false := by simpa using k6
    have e9 : (t.kind == 9) = false := by simpa using k9
    have n9 : (t.kind != 9) = true := by simpa using k9
    clear k6 k9
    go_wp2_with fail
    refine (HVTC.out _ HB.out).mono ?_
    rintro e w1 ⟨rfl, hb1⟩
    have HB1 := Lib.hid (HB.out.trans (hb1.mono HB.out.size))
    have HX1 := Lib.hid (HX.out.keep hb1)
    obtain ⟨g0, g1, g2, g3, g4, g5, g6, g7, g8⟩ := HX.out.keep hb1
    clear hb1
    go_wp2_with fail
    go_ret
    exact ⟨_, lit_f (fun h => (h.ty1.2 HVT.out).elim HK6.out HK9.out), rfl, HB1.out⟩
end Go.Proofs.YtfeijijeohfpgaaDoor
namespace Go.Proofs.YtfeijijeohfpgaaDoor
open Go Go.RowKit

theorem fieldsS_any {C : Nat → Prop} (t : Tm) (tp : Option Addr) (tc : Nat) (rp : Option Addr) (rc : Nat) (p : Option Addr) (c : Nat) (w : World) (hT : TM' w C t tp tc rp rc p c) (hn : t.wt ≤ 2097152) :
    Calls Tryd.prog 55 #[tmV t tp tc rp rc p c] w (Tells t.FieldsOk w) := by
  rcases (show t.kind = 6 ∨ t.kind = 9 ∨ (¬ t.kind = 6 ∧ ¬ t.kind = 9) by omega) with k | k | k
  · exact fieldsSSix t tp tc rp rc p c w hT hn k
  · exact fieldsSNine t tp tc rp rc p c w hT hn k
  · exact fieldsSOth t tp tc rp rc p c w hT hn k
end Go.Proofs.YtfeijijeohfpgaaDoor
namespace Go.Proofs.YtfeijijeohfpgaaDoor
open Go Go.RowKit

theorem gKA : Tryd.prog.globalNamed "loop.example/g00589/impl.kindArity" = some 1 := by kernel_rfl
def kaTab : List Int := [0, 0, 0, 0, 0, 3, 1, 2, 2, 1, 1, 1, 1, 1]
def KA (w : World) : Prop := Lib.TabIs Tryd.prog w "loop.example/g00589/impl.kindArity" .i64 kaTab ∧ 1 < w.heap.size
theorem KA.below {w w' : World} (h : KA w) (hb : Below w.heap.size w w') : KA w' := ⟨var?_below hb gKA h.2 h.1, Nat.lt_of_lt_of_le h.2 hb.size⟩
theorem KA.cell {w : World} (h : KA w) (i : Nat) : w.cell? ⟨1, i, none⟩ = ((kaTab.map fun z => Value.int .i64 z).toArray)[i]? := World.var?_cell gKA h.1 i
def Tm.NodeOk (t : Tm) : Prop := t.FieldsOk ∧ (t.args.length : Int) = t.arity
end Go.Proofs.YtfeijijeohfpgaaDoor
namespace Go.Proofs.YtfeijijeohfpgaaDoor
open Go Go.RowKit

mutual
def Tm.IsT : Tm → Prop
  | .mk k a b n t r ts => IsTS ts ∧ (Tm.mk k a b n t r ts).FieldsOk ∧ (ts.length : Int) = (Tm.mk k a b n t r ts).arity
def IsTS : List Tm → Prop
  | [] => True
  | t :: ts => t.IsT ∧ IsTS ts
end
theorem Tm.IsT_eq (t : Tm) : t.IsT ↔ IsTS t.args ∧ t.FieldsOk ∧ (t.args.length : Int) = t.arity := by cases t; simp only [Tm.IsT, Tm.args]
theorem IsTS_append (a b : List Tm) : IsTS (a ++ b) ↔ IsTS a ∧ IsTS b := by
  induction a with
  | nil => simp [IsTS]
  | cons x a ih => simp only [List.cons_append, IsTS, ih, and_assoc]
theorem IsTS_take (ts : List Tm) (k : Nat) (h : k < ts.length) : IsTS (ts.take (k + 1)) ↔ IsTS (ts.take k) ∧ ts[k].IsT := by
  rw [tm_take_next h, IsTS_append]; simp [IsTS]
theorem IsTS_at (ts : List Tm) (k : Nat) (h : k < ts.length) (hs : IsTS ts) : ts[k].IsT := by
  have := (IsTS_append (ts.take (k + 1)) (ts.drop (k + 1))).1 (by rw [List.take_append_drop]; exact hs)
  exact ((IsTS_take ts k h).1 this.1).2
theorem keepN' {W w1 : World} {p : Addr} {v : Value} (hb1 : Below W.heap.size W w1) (h : W.cell? p = some v) : w1.cell? p = some v := (hb1.cell (World.block_lt_of_cell? W _ h)).trans h
theorem keep9m {w W w1 : World} {p0 p1 p2 p3 p4 p5 p6 p7 p8 : Addr} {v0 v1 v2 v3 v4 v5 v6 v7 v8 : Value} (hb1 : Below W.heap.size W w1) (h : W.cell? p0 = some v0 ∧ W.cell? p1 = some v1 ∧ W.cell? p2 = some v2 ∧ W.cell? p3 = some v3 ∧ W.cell? p4 = some v4 ∧ W.cell? p5 = some v5 ∧ W.cell? p6 = some v6 ∧ W.cell? p7 = some v7 ∧ W.cell? p8 = some v8 ∧ Below w.heap.size w W) : w1.cell? p0 = some v0 ∧ w1.cell? p1 = some v1 ∧ w1.cell? p2 = some v2 ∧ w1.cell? p3 = some v3 ∧ w1.cell? p4 = some v4 ∧ w1.cell? p5 = some v5 ∧ w1.cell? p6 = some v6 ∧ w1.cell? p7 = some v7 ∧ w1.cell? p8 = some v8 ∧ Below w.heap.size w w1 := by
  obtain ⟨h0, h1, h2, h3, h4, h5, h6, h7, h8, hz⟩ := h
  exact ⟨keepN' hb1 h0, keepN' hb1 h1, keepN' hb1 h2, keepN' hb1 h3, keepN' hb1 h4, keepN' hb1 h5, keepN' hb1 h6, keepN' hb1 h7, keepN' hb1 h8, hz.trans (hb1.mono hz.size)⟩
theorem fields_yes {C : Nat → Prop} {t : Tm} {tp rp p : Option Addr} {tc rc c : Nat} {w : World} (hT : TM' w C t tp tc rp rc p c) (hn : t.wt ≤ 2097152) (h : t.FieldsOk) :
    Calls Tryd.prog 55 #[tmV t tp tc rp rc p c] w fun e w' => e = .returned (.bool true) ∧ Below w.heap.size w w' := by
  refine (fieldsS_any t tp tc rp rc p c w hT hn).mono ?_
  rintro e w' ⟨r, hr, rfl, hw⟩
  exact ⟨by rw [hr.2 h], hw⟩
theorem fields_no {C : Nat → Prop} {t : Tm} {tp rp p : Option Addr} {tc rc c : Nat} {w : World} (hT : TM' w C t tp tc rp rc p c) (hn : t.wt ≤ 2097152) (h : ¬ t.FieldsOk) :
    Calls Tryd.prog 55 #[tmV t tp tc rp rc p c] w fun e w' => e = .returned (.bool false) ∧ Below w.heap.size w w' := by
  refine (fieldsS_any t tp tc rp rc p c w hT hn).mono ?_
  rintro e w' ⟨r, hr, rfl, hw⟩
  exact ⟨by rw [Bool.eq_false_iff.2 (fun e => h (hr.1 e))], hw⟩

set_option maxRecDepth 100000 in
set_option maxHeartbeats 4000000 in
theorem isTM_any {C : Nat → Prop} : ∀ (m : Nat) {t : Tm} {tp : Option Addr} {tc : Nat} {rp : Option Addr} {rc : Nat} {p : Option Addr} {c : Nat} (w : World), t.nodes ≤ m → TM' w C t tp tc rp rc p c → t.wt ≤ 2097152 → Calls Tryd.prog 31 #[tmV t tp tc rp rc p c] w (Tells t.IsT w)
  | 0, t, tp, tc, rp, rc, p, c, w, hm, hT, hn => by rw [t.nodes_eq] at hm; omega
  | m + 1, t, tp, tc, rp, rc, p, c, w, hm, hT, hn => by
    have HT := Lib.hid hT
    have HX0 := Lib.hid (Bx9.new w t tp tc rp rc p c 35)
    have HB0 := Lib.hid (al_below w (.cells (tmC t tp tc rp rc p c) 35))
    have hne := t.nodes_eq
    have hwe := t.wt_eq
    have hlen := wtS_ge t.args
    have HM := Lib.hid hm
    have HNE := Lib.hid hne
    have HNW := Lib.hid hn
    have HIE := Lib.hid t.IsT_eq
    have hwa : wtS t.args ≤ 2097152 := by omega
    clear hT hne hwe hm hn
    go_enter Tryd.func31, Tryd.ntmps31
    go_wp2_with fail
    go_loopw [3] (fun i wr => ∃ (k : Nat), k ≤ t.args.length ∧ i = .int .i64 k ∧ IsTS (t.args.take k) ∧ Below (w.alloc (.cells (tmC t tp tc rp rc p c) 35)).heap.size (w.alloc (.cells (tmC t tp tc rp rc p c) 35)) wr) (fun i _ => t.args.length - (intOf i).toNat)
    case atStart => exact ⟨0, Nat.zero_le _, rfl, by simp [IsTS], Below.refl _ _⟩
    case round =>
      obtain ⟨k, hk, rfl, hts, hbr⟩ := hrel
      have HTS := Lib.hid hts
      have HBR := Lib.hid hbr
      have HBW := Lib.hid (HB0.out.trans (hbr.mono HB0.out.size))
      obtain ⟨d0, d1, d2, d3, d4, d5, d6, d7, d8⟩ := HX0.out.keep hbr
      clear hbr hts
      by_cases hlk : k < t.args.length
      · obtain ⟨b, o, tp2, tc2, rp2, rc2, p2, c2, rfl, hC, hb, h9, hP⟩ := tm_part HT.out.args k hlk
        obtain ⟨g0, g1, g2, g3, g4, g5, g6, g7, g8⟩ := h9 wr (.of_below HBW.out)
        have n4 := nodesM_at t.args k hlk
        have n5 := wtS_at t.args k hlk
        have hmk : t.args[k].nodes ≤ m := by have := HM.out; have := HNE.out; omega
        have hi0 : (0 : Int) ≤ (k : Int) := Int.natCast_nonneg _
        have hi1 : (k : Int) < (t.args.length : Int) := by omega
        have HC := Lib.hid (isTM_any m wr hmk (hP.stays (.of_below HBW.out)) (by omega))
        clear hC hb h9 hP n4 n5 hmk d0 d1 d2 d3 d4 d5 d6 d7
        go_wp2_with fail
        refine HC.out.mono ?_
        rintro e w1 ⟨r, hr, rfl, hb1⟩
        have HB1 := Lib.hid (HBR.out.trans (hb1.mono HBR.out.size))
        have HR := Lib.hid hr
        clear hb1 hr
        cases hr0 : r
        · have hnf : ¬ t.args[k].IsT := fun h => by have := HR.out.2 h; rw [hr0] at this; cases this
          have HF := Lib.hid hnf
          clear hnf
          subst hr0
          go_wp2_with fail
          go_ret
          exact ⟨_, lit_f (fun h => HF.out (IsTS_at _ k hlk (HIE.out.1 h).1)), rfl, box_rest HB1.out⟩
        · have HF := Lib.hid (HR.out.1 hr0)
          subst hr0
          go_wp2_with fail
          go_roundw
          case rel => exact ⟨k + 1, by omega, by go_num, (IsTS_take _ k hlk).2 ⟨HTS.out, HF.out⟩, HB1.out⟩
          case measure => simp [intOf]; omega
      · obtain rfl : k = t.args.length := by omega
        have hall := HTS.out
        rw [List.take_length] at hall
        have HALL := Lib.hid hall
        clear hall
        by_cases hf : t.FieldsOk
        · have HFC := Lib.hid (fields_yes (w := wr.drew) (C := C) (HT.out.stays (.of_below HBW.out.drew)) HNW.out hf)
          have HF := Lib.hid hf
          clear hf
          go_wp2_with fail
          go_region_held3 (fun w' => w'.cell? ⟨w.heap.size, 0, none⟩ = some (.int .i64 t.kind) ∧ w'.cell? ⟨w.heap.size, 1, none⟩ = some (.string t.name) ∧ w'.cell? ⟨w.heap.size, 2, none⟩ = some (.string t.other) ∧ w'.cell? ⟨w.heap.size, 3, none⟩ = some (.int .i64 t.n) ∧ w'.cell? ⟨w.heap.size, 4, none⟩ = some (.int .i64 t.ty.kind) ∧ w'.cell? ⟨w.heap.size, 5, none⟩ = some (.slice tp t.ty.args.length tc) ∧ w'.cell? ⟨w.heap.size, 6, none⟩ = some (.int .i64 t.res.kind) ∧ w'.cell? ⟨w.heap.size, 7, none⟩ = some (.slice rp t.res.args.length rc) ∧ w'.cell? ⟨w.heap.size, 8, none⟩ = some (.slice p t.args.length c) ∧ Below w.heap.size w w')
            (first
              | (go_keep; done)
              | exact ⟨d0, d1, d2, d3, d4, d5, d6, d7, d8, HBW.out.drew⟩
              | exact keep9m hb6 (by assumption)
              | exact keep9m hb5 (by assumption))
            (first
              | (go_at_call 55; refine HFC.out.mono ?_; rintro e w5 ⟨rfl, hb5⟩)
              | (go_at_call 56; refine (arityS_any t tp tc rp rc p c _).mono ?_; rintro e w6 ⟨rfl, hb6⟩))
          rename_i hH
          have HB7 := Lib.hid hH.2.2.2.2.2.2.2.2.2
          clear hH hb5 hb6
          by_cases har : (t.args.length : Int) = t.arity
          · have HA := Lib.hid har
            have har1 : ((t.args.length : Int) == t.arity) = true := by rw [beq_iff_eq]; exact har
            clear har
            go_wp2_with fail
            go_ret
            exact ⟨_, lit_t (HIE.out.2 ⟨HALL.out, HF.out, HA.out⟩), (by first | rfl | (rw [har1]; rfl)), HB7.out⟩
          · have HA := Lib.hid har
            have har1 : ((t.args.length : Int) == t.arity) = false := by rw [beq_eq_false_iff_ne]; exact har
            clear har
            go_wp2_with fail
            go_ret
            exact ⟨_, lit_f (fun h => HA.out (HIE.out.1 h).2.2), (by first | rfl | (rw [har1]; rfl)), HB7.out⟩
        · have HFC := Lib.hid (fields_no (w := wr.drew) (C := C) (HT.out.stays (.of_below HBW.out.drew)) HNW.out hf)
          have HF := Lib.hid hf
          clear hf
          go_wp2_with fail
          refine wp_region_noPanic ?_
          refine wp_region_held_drew (S := (fun w' => w'.cell? ⟨w.heap.size, 0, none⟩ = some (.int .i64 t.kind) ∧ w'.cell? ⟨w.heap.size, 1, none⟩ = some (.string t.name) ∧ w'.cell? ⟨w.heap.size, 2, none⟩ = some (.string t.other) ∧ w'.cell? ⟨w.heap.size, 3, none⟩ = some (.int .i64 t.n) ∧ w'.cell? ⟨w.heap.size, 4, none⟩ = some (.int .i64 t.ty.kind) ∧ w'.cell? ⟨w.heap.size, 5, none⟩ = some (.slice tp t.ty.args.length tc) ∧ w'.cell? ⟨w.heap.size, 6, none⟩ = some (.int .i64 t.res.kind) ∧ w'.cell? ⟨w.heap.size, 7, none⟩ = some (.slice rp t.res.args.length rc) ∧ w'.cell? ⟨w.heap.size, 8, none⟩ = some (.slice p t.args.length c) ∧ Below w.heap.size w w')) (by kernel_rfl) ?_ (fun hHeld => ?_)
          · try dsimp only
            exact ⟨d0, d1, d2, d3, d4, d5, d6, d7, d8, HBW.out.drew⟩
          refine wpAnyH_take (i := 0) (oi := ({ dst := some 18, op := Op.load 35 (Operand.tmp 1), type := 35, pos := "l05_term.go:86", after := #[], guard := none } : Oper)) (v := ?_) rfl (by kernel_rfl) (by kernel_rfl) (by kernel_rfl) (fun _ _ _ h => h) (Or.inl ⟨by rfl, ?_⟩) (by assumption) ?_
          rotate_left
          · intro w hSw
            try dsimp only at hSw
            go_simp
            try with_reducible rfl
          try simp only [Act.put, List.setIfInBounds_toArray, List.set_cons_zero, List.set_cons_succ]
          refine wpAnyH_ready (rs := [1]) (by kernel_rfl) (by simp) ?_
          refine AllReadyH.cons (o := ({ dst := some 19, op := Op.call { callee := Callee.value (Operand.func 55), args := #[Operand.tmp 18], argTypes := #[35] }, type := 4, pos := "l05_term.go:86", after := #[{ on := 0, ground := Ground.data }], guard := none } : Oper)) rfl (fun K hK => ?_) AllReadyH.nil
          go_simp
          (go_at_call 55; refine HFC.out.mono ?_; rintro e w5 ⟨rfl, hb5⟩)
          refine hK.out _ _ ?_ (fun hHeld1 => ?_)
          · try dsimp only
            exact keep9m hb5 (by assumption)
          clear hK K
          try simp only [Act.put, List.setIfInBounds_toArray, List.set_cons_zero, List.set_cons_succ]
          refine wpAnyH_take (i := 2) (oi := ({ dst := some 20, op := Op.move (Operand.tmp 19), type := 4, pos := "l05_term.go:86", after := #[{ on := 1, ground := Ground.data }, { on := 1, ground := Ground.chain }], guard := none } : Oper)) (v := ?_) rfl (by kernel_rfl) (by kernel_rfl) (by kernel_rfl) (fun _ _ _ h => h) (Or.inl ⟨by rfl, ?_⟩) (by assumption) ?_
          rotate_left
          · intro w hSw
            try dsimp only at hSw
            go_simp
            try with_reducible rfl
          try simp only [Act.put, List.setIfInBounds_toArray, List.set_cons_zero, List.set_cons_succ]
          refine wpAnyH_take (i := 3) (oi := ({ dst := some 21, op := Op.fieldAddr 35 (Operand.tmp 1) 6, type := 0, pos := "l05_term.go:86", after := #[{ on := 2, ground := Ground.guard }], guard := some (2, true) } : Oper)) (v := undef) rfl (by kernel_rfl) (by kernel_rfl) (by kernel_rfl) (fun _ _ _ h => h) (Or.inr ⟨by rfl, rfl⟩) (by assumption) ?_
          try simp only [Act.put, List.setIfInBounds_toArray, List.set_cons_zero, List.set_cons_succ]
          refine wpAnyH_take (i := 4) (oi := ({ dst := some 22, op := Op.load 33 (Operand.tmp 21), type := 33, pos := "l05_term.go:86", after := #[{ on := 3, ground := Ground.data }, { on := 2, ground := Ground.guard }], guard := some (2, true) } : Oper)) (v := undef) rfl (by kernel_rfl) (by kernel_rfl) (by kernel_rfl) (fun _ _ _ h => h) (Or.inr ⟨by rfl, rfl⟩) (by assumption) ?_
          try simp only [Act.put, List.setIfInBounds_toArray, List.set_cons_zero, List.set_cons_succ]
          refine wpAnyH_take (i := 5) (oi := ({ dst := some 23, op := Op.call { callee := Callee.builtin Builtin.len, args := #[Operand.tmp 22], argTypes := #[33] }, type := 3, pos := "l05_term.go:86", after := #[{ on := 4, ground := Ground.data }, { on := 2, ground := Ground.guard }], guard := some (2, true) } : Oper)) (v := undef) rfl (by kernel_rfl) (by kernel_rfl) (by kernel_rfl) (fun _ _ _ h => h) (Or.inr ⟨by rfl, rfl⟩) (by assumption) ?_
          try simp only [Act.put, List.setIfInBounds_toArray, List.set_cons_zero, List.set_cons_succ]
          refine wpAnyH_take (i := 6) (oi := ({ dst := some 24, op := Op.load 35 (Operand.tmp 1), type := 35, pos := "l05_term.go:86", after := #[{ on := 2, ground := Ground.guard }], guard := some (2, true) } : Oper)) (v := undef) rfl (by kernel_rfl) (by kernel_rfl) (by kernel_rfl) (fun _ _ _ h => h) (Or.inr ⟨by rfl, rfl⟩) (by assumption) ?_
          try simp only [Act.put, List.setIfInBounds_toArray, List.set_cons_zero, List.set_cons_succ]
          refine wpAnyH_take (i := 7) (oi := ({ dst := some 25, op := Op.call { callee := Callee.value (Operand.func 56), args := #[Operand.tmp 24], argTypes := #[35] }, type := 3, pos := "l05_term.go:86", after := #[{ on := 6, ground := Ground.data }, { on := 2, ground := Ground.chain }, { on := 2, ground := Ground.guard }], guard := some (2, true) } : Oper)) (v := undef) rfl (by kernel_rfl) (by kernel_rfl) (by kernel_rfl) (fun _ _ _ h => h) (Or.inr ⟨by rfl, rfl⟩) (by assumption) ?_
          try simp only [Act.put, List.setIfInBounds_toArray, List.set_cons_zero, List.set_cons_succ]
          refine wpAnyH_take (i := 8) (oi := ({ dst := some 26, op := Op.binOp BinOp.eql 3 (Operand.tmp 23) (Operand.tmp 25) 3, type := 4, pos := "l05_term.go:86", after := #[{ on := 5, ground := Ground.data }, { on := 7, ground := Ground.data }, { on := 2, ground := Ground.guard }], guard := some (2, true) } : Oper)) (v := undef) rfl (by kernel_rfl) (by kernel_rfl) (by kernel_rfl) (fun _ _ _ h => h) (Or.inr ⟨by rfl, rfl⟩) (by assumption) ?_
          try simp only [Act.put, List.setIfInBounds_toArray, List.set_cons_zero, List.set_cons_succ]
          refine wpAnyH_take (i := 9) (oi := ({ dst := some 27, op := Op.pick (Operand.tmp 20) (Operand.tmp 26) (Operand.const (Value.bool false)), type := 4, pos := "l05_term.go:86", after := #[{ on := 2, ground := Ground.data }, { on := 8, ground := Ground.data }], guard := none } : Oper)) (v := ?_) rfl (by kernel_rfl) (by kernel_rfl) (by kernel_rfl) (fun _ _ _ h => h) (Or.inl ⟨by rfl, ?_⟩) (by assumption) ?_
          rotate_left
          · intro w hSw
            try dsimp only at hSw
            go_simp
            try with_reducible rfl
          try simp only [Act.put, List.setIfInBounds_toArray, List.set_cons_zero, List.set_cons_succ]
          refine wpAnyH_take (i := 10) (oi := ({ dst := some 2, op := Op.assign (Operand.tmp 27), type := 4, pos := "l05_term.go:86", after := #[{ on := 9, ground := Ground.data }, { on := 7, ground := Ground.chain }, { on := 0, ground := Ground.phase }, { on := 1, ground := Ground.phase }, { on := 2, ground := Ground.phase }, { on := 3, ground := Ground.phase }, { on := 4, ground := Ground.phase }, { on := 5, ground := Ground.phase }, { on := 6, ground := Ground.phase }, { on := 7, ground := Ground.phase }, { on := 8, ground := Ground.phase }, { on := 9, ground := Ground.phase }], guard := none } : Oper)) (v := ?_) rfl (by kernel_rfl) (by kernel_rfl) (by kernel_rfl) (fun _ _ _ h => h) (Or.inl ⟨by rfl, ?_⟩) (by assumption) ?_
          rotate_left
          · intro w hSw
            try dsimp only at hSw
            go_simp
            try with_reducible rfl
          try simp only [Act.put, List.setIfInBounds_toArray, List.set_cons_zero, List.set_cons_succ]
          refine wpAnyH_done (by kernel_rfl) ?_ _
          refine NoPanic.normal ?_
          clear hHeld hHeld1
          have HB7 := Lib.hid (HBW.out.trans (((Below.refl _ _).drew.trans hb5).mono HBW.out.size))
          clear hb5
          go_wp2_with fail
          go_ret
          exact ⟨_, lit_f (fun h => HF.out (HIE.out.1 h).2.1), rfl, HB7.out⟩
end Go.Proofs.YtfeijijeohfpgaaDoor
namespace Go.Proofs.YtfeijijeohfpgaaDoor
open Go Go.RowKit

end Go.Proofs.YtfeijijeohfpgaaDoor
namespace Go.Proofs.YtfeijijeohfpgaaDoor
open Go Go.RowKit

mutual
theorem isT_walk : ∀ (t : Tm) (d : Nat), t.IsT ↔ ∀ e ∈ walkM t d, e.1.NodeOk
  | .mk k a b n t r ts, d => by
    have h := isTS_walk ts (d + 1)
    rw [Tm.IsT_eq]
    show IsTS ts ∧ _ ∧ _ ↔ _
    rw [h]
    simp only [walkM, List.forall_mem_cons]
    exact And.comm
theorem isTS_walk : ∀ (ts : List Tm) (d : Nat), IsTS ts ↔ ∀ e ∈ walkSM ts d, e.1.NodeOk
  | [], d => by simp [IsTS, walkSM]
  | t :: ts, d => by
    have h1 := isTS_walk ts d
    have h2 := isT_walk t d
    simp only [IsTS, walkSM, List.forall_mem_append, h1, h2]
end
def AllOk (pre : List (Tm × Nat)) : Prop := ∀ e ∈ pre, e.1.NodeOk
theorem AllOk.next {pre : List (Tm × Nat)} {x : Tm} {d : Nat} (h : AllOk pre) (hx : x.NodeOk) : AllOk (pre ++ [(x, d)]) := by
  intro e he
  rcases List.mem_append.1 he with he | he
  · exact h e he
  · simp only [List.mem_singleton] at he; subst he; exact hx
theorem isT_of {t : Tm} (h : AllOk (walkM t 1)) : t.IsT := (isT_walk t 1).2 h
theorem not_isT_at {t x : Tm} {d : Nat} {pre : List (Tm × Nat)} (h : pre ++ [(x, d)] <+: walkM t 1) (hx : ¬ x.NodeOk) : ¬ t.IsT := fun hh =>
  hx ((isT_walk t 1).1 hh (x, d) (h.subset (by simp)))
mutual
theorem wt_walk : ∀ (t : Tm) (d : Nat) (e : Tm × Nat), e ∈ walkM t d → e.1.wt ≤ t.wt
  | .mk k a b n t r ts, d, e, h => by
    rw [walkM] at h
    rcases List.mem_cons.1 h with rfl | h
    · exact Nat.le_refl _
    · have h1 := wt_walkS ts (d + 1) e h
      simp only [Tm.wt]
      omega
theorem wt_walkS : ∀ (ts : List Tm) (d : Nat) (e : Tm × Nat), e ∈ walkSM ts d → e.1.wt ≤ wtS ts
  | [], d, e, h => by simp [walkSM] at h
  | t :: ts, d, e, h => by
    rw [walkSM] at h
    rcases List.mem_append.1 h with h | h
    · have h1 := wt_walk t d e h
      simp only [wtS]
      omega
    · have h1 := wt_walkS ts d e h
      simp only [wtS]
      omega
end
end Go.Proofs.YtfeijijeohfpgaaDoor
namespace Go.Proofs.YtfeijijeohfpgaaDoor
open Go Go.RowKit
def LvNode (e : Tm × Int) : Prop := (0 ≤ e.2 ∧ e.2 ≤ 2) ∧ e.1.NodeOk
mutual
theorem isT_walkL : ∀ (t : Tm) (l : Int), t.IsT ↔ ∀ e ∈ walkL t l, e.1.NodeOk
  | .mk k a b n t r ts, l => by
    have h := isT_walkLS ts (nextL k l)
    rw [Tm.IsT_eq]
    show IsTS ts ∧ _ ∧ _ ↔ _
    rw [h]
    simp only [walkL, List.forall_mem_cons]
    exact And.comm
theorem isT_walkLS : ∀ (ts : List Tm) (l : Int), IsTS ts ↔ ∀ e ∈ walkLS ts l, e.1.NodeOk
  | [], l => by simp [IsTS, walkLS]
  | t :: ts, l => by
    have h1 := isT_walkLS ts l
    have h2 := isT_walkL t l
    simp only [IsTS, walkLS, List.forall_mem_append, h1, h2]
end
theorem levels_walk (t : Tm) (l : Int) : (t.IsT ∧ t.lvOk l) ↔ ∀ e ∈ walkL t l, LvNode e := by
  rw [isT_walkL t l, lvOk_walk]
  exact ⟨fun h e he => ⟨h.2 e he, h.1 e he⟩, fun h => ⟨fun e he => (h e he).2, fun e he => (h e he).1⟩⟩
end Go.Proofs.YtfeijijeohfpgaaDoor
namespace Go.Proofs.YtfeijijeohfpgaaDoor
open Go Go.RowKit

theorem infoStr : (Tryd.prog.info? 9).map (fun i => (i.zero, i.size, i.bytes)) = some (some (.string ⟨#[]⟩), 1, 16) := by kernel_rfl

end Go.Proofs.YtfeijijeohfpgaaDoor
namespace Go.Proofs.YtfeijijeohfpgaaDoor
open Go Go.RowKit
def Own (w : World) (base : Nat) (v : Value) (xs : List ByteArray) : Prop := w.ownsRow base 9 1 v xs.length (xs.map Value.string)
theorem Own.ss {w : World} {base : Nat} {v : Value} {xs : List ByteArray} (h : Own w base v xs) : SS w v xs := SS_of_row h
theorem Own.below {w w' : World} {base : Nat} {v : Value} {xs : List ByteArray} (h : Own w base v xs) (hb : Below w.heap.size w w') : Own w' base v xs := ownsRow_below h hb
theorem own_empty (w : World) : Own (w.alloc (.cells #[] 9)) w.heap.size (.slice (some ⟨w.heap.size, 0, none⟩) 0 0) [] :=
  World.ownsRow_lit w #[] 0 (Nat.le_refl _) (Nat.zero_le _) rfl

theorem wpList_app_str {w0 : World} {ops : Array Oper} {rest : List Oper} {o : Oper} {a : Act} {Q : Exit → Act → World → Prop} (hgd : o.guard = none) (s x : Operand)
    (ho : o.op = .call { callee := .builtin .append, args := #[s, x], argTypes := #[62, 62] })
    (base : Nat) (v : Value) (xs : List ByteArray) (hs : a.eval s = v) (hown : Own w0 base v xs) (y : ByteArray)
    (hx : a.eval x = .slice (some ⟨w0.heap.size, 0, none⟩) 1 1) (hlen : xs.length ≤ 8388608) (hbase : base ≤ w0.heap.size)
    (h : ∀ v' w', Own w' base v' (xs ++ [y]) → Below base w0 w' → wpList Tryd.prog ops Q rest (a.put o.dst v') w') :
    wpList Tryd.prog ops Q (o :: rest) a (w0.alloc (.cells #[.string y] 9)) := by
  obtain ⟨i0, hi, hz0, hz1, hz2⟩ := info_parts infoStr
  have hown1 := hown.below ((Below.refl w0.heap.size w0).alloc (Nat.le_refl _) (.cells #[.string y] 9))
  refine wpList_append_own _ hgd s x 62 ho base 9 i0 (.string ⟨#[]⟩) 1 16 Tryd.underlying62 hi hz0 hz1 hz2 rfl (by decide) v xs.length (xs.map Value.string) hs hown1
    ⟨w0.heap.size, 0, none⟩ 1 1 [.string y] hx rfl (cell_one_new _ _ _) (fun u hu => by simp at hu; subst hu; rfl) (by unfold maxLen; omega) (by omega) (by simp; omega) ?_
  intro v' w' hown' hg _
  refine h v' w' ?_ ?_
  · have e : (xs ++ [y]).map Value.string = xs.map Value.string ++ [Value.string y] := by simp
    have e1 : (xs ++ [y]).length = xs.length + 1 := by simp
    unfold Own
    rw [e, e1]
    exact hown'
  · exact ((Below.refl base w0).alloc hbase _).grown hg (by simp; omega) (fun k hk => (hown1.lt k hk).1)
end Go.Proofs.YtfeijijeohfpgaaDoor
