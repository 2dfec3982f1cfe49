/-
  The contracts of the model's l5Names and l5Fields.
-/
import Derived.Test.YtfeijijeohfpgaaDoorTmNode
import Derived.Test.YtfeijijeohfpgaaDoorSpecTy3
namespace Go.Proofs.YtfeijijeohfpgaaDoor
open Go Go.RowKit

theorem emp_iff (s : ByteArray) : s.toList.isEmpty = true ↔ s.toList = [] := by simp
theorem b_and {a b : Prop} {x y : Bool} (hx : x = true ↔ a) (hy : y = true ↔ b) : ((x && y) = true ↔ a ∧ b) := by rw [Bool.and_eq_true, hx, hy]
theorem b_not {a : Prop} {x : Bool} (hx : x = true ↔ a) : ((!x) = true ↔ ¬ a) := by rw [Bool.not_eq_true', ← Bool.not_eq_true, hx]
theorem names_4 {t : Tm} (h : t.kind = 4) : t.namesOk ↔ 0 < opAr t.name.toList ∧ t.other.toList = [] := by rw [Tm.namesOk, if_pos h]
theorem names_1 {t : Tm} (h4 : ¬ t.kind = 4) (h : t.kind = 1 ∨ t.kind = 6 ∨ t.kind = 8) : t.namesOk ↔ Nm t.name ∧ t.other.toList = [] := by rw [Tm.namesOk, if_neg h4, if_pos h]
theorem names_9 {t : Tm} (h4 : ¬ t.kind = 4) (h1 : ¬ (t.kind = 1 ∨ t.kind = 6 ∨ t.kind = 8)) (h : t.kind = 9) : t.namesOk ↔ Nm t.name ∧ Nm t.other ∧ t.name ≠ t.other := by rw [Tm.namesOk, if_neg h4, if_neg h1, if_pos h]
theorem names_0 {t : Tm} (h4 : ¬ t.kind = 4) (h1 : ¬ (t.kind = 1 ∨ t.kind = 6 ∨ t.kind = 8)) (h : ¬ t.kind = 9) : t.namesOk ↔ t.name.toList = [] ∧ t.other.toList = [] := by rw [Tm.namesOk, if_neg h4, if_neg h1, if_neg h]
theorem lit_t {p : Prop} (h : p) : (true = true ↔ p) := ⟨fun _ => h, fun _ => rfl⟩
theorem lit_f {p : Prop} (h : ¬ p) : (false = true ↔ p) := ⟨fun e => (by cases e), fun e => absurd e h⟩

set_option maxRecDepth 100000 in
set_option maxHeartbeats 2000000 in
theorem namesS_any (t : Tm) (tp : Option Addr) (tc : Nat) (rp : Option Addr) (rc : Nat) (p : Option Addr) (c : Nat) (w : World) (h1 : t.name.size ≤ 9223372036854775807) (h2 : t.other.size ≤ 9223372036854775807) :
    Calls Tryd.prog 82 #[tmV t tp tc rp rc p c] w (Tells t.namesOk w) := by
  have HB := Lib.hid (al_below w (.cells (tmC t tp tc rp rc p c) 35))
  have HX := Lib.hid (Bx9.new w t tp tc rp rc p c 35)
  have HNM := Lib.hid (nmS_any t.name (w.alloc (.cells (tmC t tp tc rp rc p c) 35)) h1)
  have HNO := Lib.hid (fun W => nmS_any t.other W h2)
  have HAR := Lib.hid (opAr_range t.name.toList)
  cases hb : t.other.toList.isEmpty
  all_goals
    cases hd : t.name.toList.isEmpty
  all_goals
    have HE := Lib.hid (emp_iff t.other)
    have HN := Lib.hid (emp_iff t.name)
    rw [hb] at HE
    rw [hd] at HN
    go_enter Tryd.func82, Tryd.ntmps82
    by_cases k4 : t.kind = 4
    · have a4 : 4 ≤ t.kind := by omega
      have b4 : t.kind ≤ 4 := by omega
      have HK := Lib.hid k4
      clear k4
      by_cases ha : 0 < opAr t.name.toList
      all_goals
        go_wp2_with (first | (go_at_call 83; refine (opArS_any _ _).mono ?_; rintro e w' ⟨rfl, rfl⟩))
        go_ret
        refine ⟨_, ?_, rfl, HB.out⟩
        have h2 := HE.out
        simp only [true_iff, false_iff, Bool.false_eq_true] at h2
        rw [names_4 HK.out]
        simp [ha, h2]
    have HK4 := Lib.hid k4
    by_cases k1 : t.kind = 1 ∨ t.kind = 6 ∨ t.kind = 8
    · have HK := Lib.hid k1
      rcases k1 with k | k | k
      all_goals
        have ak := Int.le_of_eq k
        have bk := Int.le_of_eq k.symm
        clear k k4
        go_wp2_with fail
        refine HNM.out.mono ?_
        rintro e w1 ⟨r, hr, rfl, hb1⟩
        have HR := Lib.hid hr
        have HB1 := Lib.hid (HB.out.trans (hb1.mono HB.out.size))
        obtain ⟨g0, g1, g2, g3, g4, g5, g6, g7, g8⟩ := HX.out.keep hb1
        clear hr hb1
        cases r
        all_goals
          go_wp2_with fail
          go_ret
          refine ⟨_, ?_, rfl, HB1.out⟩
          have h1 := HR.out
          have h2 := HE.out
          simp only [true_iff, false_iff, Bool.false_eq_true] at h1 h2
          rw [names_1 HK4.out HK.out]
          simp [h1, h2]
    have HK1 := Lib.hid k1
    have m1 : ¬ t.kind = 1 := fun e => k1 (Or.inl e)
    have m6 : ¬ t.kind = 6 := fun e => k1 (Or.inr (Or.inl e))
    have m8 : ¬ t.kind = 8 := fun e => k1 (Or.inr (Or.inr e))
    clear k1
    by_cases k9 : t.kind = 9
    · have a9 := Int.le_of_eq k9
      have b9 := Int.le_of_eq k9.symm
      have HK := Lib.hid k9
      clear k9 k4 m1 m6 m8
      go_wp2_with fail
      refine HNM.out.mono ?_
      rintro e w1 ⟨r, hr, rfl, hb1⟩
      have HR := Lib.hid hr
      have HB1 := Lib.hid (HB.out.trans (hb1.mono HB.out.size))
      have HX1 := Lib.hid (HX.out.keep hb1)
      obtain ⟨g0, g1, g2, g3, g4, g5, g6, g7, g8⟩ := HX.out.keep hb1
      clear hr hb1
      cases r
      · go_wp2_with fail
        go_ret
        refine ⟨_, ?_, rfl, HB1.out⟩
        have h1 := HR.out
        simp only [false_iff, Bool.false_eq_true] at h1
        rw [names_9 HK4.out HK1.out HK.out]
        simp [h1]
      · go_wp2_with fail
        refine (HNO.out w1).mono ?_
        rintro e w2 ⟨r2, hr2, rfl, hb2⟩
        have HR2 := Lib.hid hr2
        have HB2 := Lib.hid (HB1.out.trans (hb2.mono HB1.out.size))
        clear g0 g1 g2 g3 g4 g5 g6 g7 g8
        obtain ⟨g0, g1, g2, g3, g4, g5, g6, g7, g8⟩ := HX1.out.keep hb2
        clear hr2 hb2
        by_cases hq : t.name = t.other
        · have hq1 := str_yes hq
          have HQ := Lib.hid hq
          clear hq
          cases r2
          all_goals
            go_wp2_with fail
            go_ret
            refine ⟨_, ?_, rfl, HB2.out⟩
            have h3 := HQ.out
            rw [names_9 HK4.out HK1.out HK.out]
            simp [h3]
        · have hq1 := str_no hq
          have HQ := Lib.hid hq
          clear hq
          cases r2
          all_goals
            go_wp2_with fail
            go_ret
            refine ⟨_, ?_, rfl, HB2.out⟩
            have h1 := HR.out
            have h2 := HR2.out
            have h3 := HQ.out
            simp only [true_iff, false_iff, Bool.false_eq_true] at h1 h2
            rw [names_9 HK4.out HK1.out HK.out]
            simp [h1, h2, h3]
    · have HK := Lib.hid k9
      go_wp2_with fail
      go_ret
      refine ⟨_, ?_, rfl, HB.out⟩
      have h1 := HN.out
      have h2 := HE.out
      simp only [true_iff, false_iff, Bool.false_eq_true] at h1 h2
      rw [names_0 HK4.out HK1.out HK.out]
      simp [h1, h2]
end Go.Proofs.YtfeijijeohfpgaaDoor

