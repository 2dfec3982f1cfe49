/-
  Several texts of the proof in one (each says below what it holds): TxS RdQ Cf RdV RdQw Gsam.
-/
import Derived.Test.YtfeijijeohfpgaaGreatDoorLv9
import Derived.Test.YtfeijijeohfpgaaGreatDoorLv11
import Derived.Test.YtfeijijeohfpgaaGreatDoorLv10
import Derived.Test.YtfeijijeohfpgaaGreatDoorLv1
import Derived.Test.YtfeijijeohfpgaaGreatDoorLv5
set_option linter.unusedVariables false
set_option linter.unusedSimpArgs false
namespace Go.Proofs.YtfeijijeohfpgaaGreatDoor
open Go Go.RowKit

theorem cat_t1 (x : List UInt8) : (⟨#[40, 33]⟩ : ByteArray) ++ ⟨x.toArray⟩ ++ (⟨#[41]⟩ : ByteArray) = ⟨(40 :: 33 :: (x ++ [41])).toArray⟩ := by
  apply ByteArray.ext
  simp
theorem cat_t2 (a : ByteArray) (x y : List UInt8) : (⟨#[40]⟩ : ByteArray) ++ ⟨x.toArray⟩ ++ a ++ ⟨y.toArray⟩ ++ (⟨#[41]⟩ : ByteArray) = ⟨(40 :: (x ++ (a.data.toList ++ (y ++ [41])))).toArray⟩ := by
  apply ByteArray.ext
  simp
theorem cat_t10 (x : List UInt8) : (⟨#[60]⟩ : ByteArray) ++ ⟨x.toArray⟩ ++ (⟨#[62]⟩ : ByteArray) = ⟨(60 :: (x ++ [62])).toArray⟩ := by
  apply ByteArray.ext
  simp
theorem cat_t11 (x : List UInt8) : (⟨#[126]⟩ : ByteArray) ++ ⟨x.toArray⟩ = ⟨(126 :: x).toArray⟩ := by
  apply ByteArray.ext
  simp
def tbs (ts : List Tm) : List ByteArray := ts.map fun t => tb t.text
theorem tbs_len (ts : List Tm) : (tbs ts).length = ts.length := by simp [tbs]
theorem tbs_take (ts : List Tm) (k : Nat) (h : k < ts.length) : tbs (ts.take (k + 1)) = tbs (ts.take k) ++ [tb ts[k].text] := by
  unfold tbs
  rw [tm_take_next h, List.map_append]; rfl
theorem IsTS.at {ts : List Tm} (h : IsTS ts) (k : Nat) (hk : k < ts.length) : ts[k].IsT := by
  induction ts generalizing k with
  | nil => simp at hk
  | cons t ts ih =>
    cases k with
    | zero => exact h.1
    | succ k => exact ih h.2 k (by simpa using hk)
set_option maxRecDepth 100000 in
set_option maxHeartbeats 8000000 in
theorem txS_any {C : Nat → Prop} : ∀ (m : Nat) {t : Tm} {tp : Option Addr} {tc : Nat} {rp : Option Addr} {rc : Nat} {p : Option Addr} {c : Nat} (w : World), t.nodes ≤ m → TM' w C t tp tc rp rc p c → t.wt ≤ 2097152 → t.IsT → Calls Tryz.prog 212 #[tmV t tp tc rp rc p c] w (StrRet t.text w)
  | 0, t, tp, tc, rp, rc, p, c, w, hm, hT, hn, hI => by rw [t.nodes_eq] at hm; omega
  | m + 1, t, tp, tc, rp, rc, p, c, w, hm, hT, hn, hI => by
    have HT := Lib.hid hT
    have HX0 := Lib.hid (Bx9.new w t tp tc rp rc p c 29)
    have HB0 := Lib.hid (al_below w (.cells (tmC t tp tc rp rc p c) 29))
    have SH := Lib.hid (shape hI)
    have hne := t.nodes_eq
    have hwe := t.wt_eq
    have hlen := wtS_ge t.args
    have HM := Lib.hid hm
    have HNE := Lib.hid hne
    have HIS := Lib.hid ((Tm.IsT_eq t).1 hI).1
    have HL := Lib.hid (textM_le t hI)
    have hwa : wtS t.args ≤ 2097152 := by omega
    have hna : t.name.size ≤ 2097152 := by omega
    have hno : t.other.size ≤ 2097152 := by omega
    clear hT hne hwe hm hI
    go_enter Tryz.func212, Tryz.ntmps212
    go_wp2_with fail
    go_loopw [3, 4] (fun v i wr => ∃ (k : Nat), k ≤ t.args.length ∧ i = .int .i64 k ∧ Own wr (w.heap.size + 1) v (tbs (t.args.take k)) ∧ Bx9 wr w.heap.size t tp tc rp rc p c ∧ Below w.heap.size w wr) (fun _ i _ => t.args.length - (intOf i).toNat)
    case atStart =>
      refine ⟨0, Nat.zero_le _, rfl, ?_, ?_, ?_⟩
      · have := own_empty (w.alloc (.cells (tmC t tp tc rp rc p c) 29))
        rw [World.size_alloc] at this
        exact this
      · exact HX0.out.keep (al_below _ _)
      · exact HB0.out.trans ((al_below _ _).mono (by simp))
    case round =>
      obtain ⟨k, hk, rfl, hown, hbx, hbr⟩ := hrel
      have HO := Lib.hid hown
      have HBX := Lib.hid hbx
      have HB := Lib.hid hbr
      have hsz := hbr.size
      obtain ⟨d0, d1, d2, d3, d4, d5, d6, d7, d8⟩ := hbx
      clear hown hbr
      by_cases hlk : k < t.args.length
      · obtain ⟨b, o, tp2, tc2, rp2, rc2, p2, c2, rfl, hC, hb, h9, hP⟩ := tm_part HT.out.args k hlk
        obtain ⟨g0, g1, g2, g3, g4, g5, g6, g7, g8⟩ := h9 wr (.of_below HB.out)
        have n4 := nodesM_at t.args k hlk
        have n5 := wtS_at t.args k hlk
        have hmk : t.args[k].nodes ≤ m := by have := HM.out; have := HNE.out; omega
        have hi0 : (0 : Int) ≤ (k : Int) := Int.natCast_nonneg _
        have hi1 : (k : Int) < (t.args.length : Int) := by omega
        have HC := Lib.hid (fun (W : World) (hW : Below wr.heap.size wr W) => txS_any m W hmk (hP.stays (.of_below (HB.out.trans (hW.mono HB.out.size)))) (by omega) (HIS.out.at k hlk))
        have htk : (t.args.take k).length ≤ 2097152 := by rw [List.length_take]; omega
        have HTK := Lib.hid (tbs_take t.args k hlk)
        clear hC hb h9 hP n4 n5 hmk
        go_wp2_with fail
        refine (HC.out _ (Below.refl _ _)).mono ?_
        rintro e w1 ⟨rfl, hb1⟩
        have HO1 := Lib.hid (HO.out.below hb1)
        have HX1 := Lib.hid (HBX.out.keep hb1)
        have HB1 := Lib.hid (HB.out.trans (hb1.mono HB.out.size))
        have hz1 := hb1.size
        have hlk2 : (tbs (t.args.take k)).length ≤ 8388608 := by rw [tbs_len]; omega
        have hz2 : w.heap.size + 1 ≤ w1.heap.size := by have := HBX.out.lt; omega
        clear hb1 d0 d1 d2 d3 d4 d5 d6 d7 d8 g0 g1 g2 g3 g4 g5 g6 g7 g8
        go_wp2_with (at_builtin; refine wpList_app_str rfl _ _ rfl (w.heap.size + 1) _ _ rfl HO1.out _ rfl hlk2 hz2 ?_; intro v' w2 hown2 hb2)
        have HO2 := Lib.hid hown2
        have HX2 := Lib.hid (HX1.out.at (hb2.block _ (by omega)))
        have HB2 := Lib.hid (HB1.out.trans (hb2.mono (by omega)))
        clear hown2 hb2
        go_wp2_with fail
        go_roundw
        case rel => exact ⟨k + 1, by omega, by go_num, by rw [HTK.out]; exact HO2.out, HX2.out, HB2.out⟩
        case measure => simp [intOf]; omega
      · obtain rfl : k = t.args.length := by omega
        rw [List.take_length] at HO
        clear hlk hk hlen
        obtain ⟨kk, a, o, n, ty, res, ts⟩ := t
        have sh := SH.out
        have hS : SS wr _ (tbs ts) := HO.out.ss
        simp only [Tm.name, Tm.other] at hna hno
        clear SH HM HNE HIS HBX HX0
        cases sh with
        | var a h =>
          simp only [Tm.kind, Tm.name, Tm.other, Tm.n, Tm.ty, Tm.res, Tm.args, Ty.kind_mk, Ty.args_mk, List.length_nil] at d0 d1 d2 d3 d4 d5 d6 d7 d8
          go_wp2_with fail
          go_ret
          exact ⟨by rw [t_var]; rfl, HB.out⟩
        | int n h0 h1 =>
          simp only [Tm.kind, Tm.name, Tm.other, Tm.n, Tm.ty, Tm.res, Tm.args, Ty.kind_mk, Ty.args_mk, List.length_nil] at d0 d1 d2 d3 d4 d5 d6 d7 d8
          go_wp2_with fail
          refine (fmt_any n (by omega) (by omega) wr).mono ?_
          rintro e w2 ⟨rfl, hb2⟩
          have HB2 := Lib.hid (HB.out.trans (hb2.mono HB.out.size))
          clear hb2
          go_wp2_with fail
          go_ret
          exact ⟨by rw [t_int]; rfl, HB2.out⟩
        | bool n h =>
          rcases h with rfl | rfl
          all_goals
            simp only [Tm.kind, Tm.name, Tm.other, Tm.n, Tm.ty, Tm.res, Tm.args, Ty.kind_mk, Ty.args_mk, List.length_nil] at d0 d1 d2 d3 d4 d5 d6 d7 d8
            go_wp2_with fail
            go_ret
            exact ⟨by rw [t_bool]; rfl, HB.out⟩
        | op1 a ha x hx =>
          simp only [Tm.kind, Tm.name, Tm.other, Tm.n, Tm.ty, Tm.res, Tm.args, Ty.kind_mk, Ty.args_mk, List.length_nil, List.length_cons, Nat.zero_add] at d0 d1 d2 d3 d4 d5 d6 d7 d8
          obtain ⟨bb, ii, dd, rfl, hbb, hcc⟩ := SS.one hS
          have hl := HL.out
          rw [t_op1] at hl
          simp only [List.length_cons, List.length_append, List.length_nil] at hl
          have q1 : ¬ 9223372036854775807 < 2 + x.text.length := by omega
          have q2 : ¬ 9223372036854775807 < 2 + x.text.length + 1 := by omega
          clear hl
          go_wp2_with fail
          go_ret
          exact ⟨by rw [t_op1, ← cat_t1]; rfl, HB.out⟩
        | op2 a ch ha hc x y hx hy =>
          simp only [Tm.kind, Tm.name, Tm.other, Tm.n, Tm.ty, Tm.res, Tm.args, Ty.kind_mk, Ty.args_mk, List.length_nil, List.length_cons, Nat.zero_add, Nat.reduceAdd] at d0 d1 d2 d3 d4 d5 d6 d7 d8
          obtain ⟨bb, ii, dd, rfl, hbb, hcc, hc2⟩ := SS.two hS
          have had : a.size = 1 := by
            have := congrArg List.length ha
            rw [ByteArray.toList_eq] at this
            simpa using this
          have hl := HL.out
          rw [t_op2] at hl
          simp only [List.length_cons, List.length_append, List.length_nil] at hl
          have q1 : ¬ 9223372036854775807 < 1 + x.text.length := by omega
          have q2 : ¬ 9223372036854775807 < 1 + x.text.length + a.size := by omega
          have q3 : ¬ 9223372036854775807 < 1 + x.text.length + a.size + y.text.length := by omega
          have q4 : ¬ 9223372036854775807 < 1 + x.text.length + a.size + y.text.length + 1 := by omega
          clear hl had
          go_wp2_with fail
          go_region
          go_wp2_with fail
          go_ret
          exact ⟨by rw [t_op2, ← cat_t2]; rfl, HB.out.drew⟩
        | quote x hx =>
          simp only [Tm.kind, Tm.name, Tm.other, Tm.n, Tm.ty, Tm.res, Tm.args, Ty.kind_mk, Ty.args_mk, List.length_nil, List.length_cons, Nat.zero_add] at d0 d1 d2 d3 d4 d5 d6 d7 d8
          obtain ⟨bb, ii, dd, rfl, hbb, hcc⟩ := SS.one hS
          have hl := HL.out
          rw [t_quote] at hl
          simp only [List.length_cons, List.length_append, List.length_nil] at hl
          have q1 : ¬ 9223372036854775807 < 1 + x.text.length := by omega
          have q2 : ¬ 9223372036854775807 < 1 + x.text.length + 1 := by omega
          clear hl
          go_wp2_with fail
          go_ret
          exact ⟨by rw [t_quote, ← cat_t10]; rfl, HB.out⟩
        | splice x hx =>
          simp only [Tm.kind, Tm.name, Tm.other, Tm.n, Tm.ty, Tm.res, Tm.args, Ty.kind_mk, Ty.args_mk, List.length_nil, List.length_cons, Nat.zero_add] at d0 d1 d2 d3 d4 d5 d6 d7 d8
          obtain ⟨bb, ii, dd, rfl, hbb, hcc⟩ := SS.one hS
          have hl := HL.out
          rw [t_splice] at hl
          simp only [List.length_cons] at hl
          have q1 : ¬ 9223372036854775807 < 1 + x.text.length := by omega
          clear hl
          go_wp2_with fail
          go_ret
          exact ⟨by rw [t_splice, ← cat_t11]; rfl, HB.out⟩
        | run x hx =>
          simp only [Tm.kind, Tm.name, Tm.other, Tm.n, Tm.ty, Tm.res, Tm.args, Ty.kind_mk, Ty.args_mk, List.length_nil, List.length_cons, Nat.zero_add] at d0 d1 d2 d3 d4 d5 d6 d7 d8
          have hl := HL.out
          rw [t_run] at hl
          simp only [List.length_cons, List.length_append, List.length_nil] at hl
          have HC := Lib.hid (long_run x.text tp tc rp rc p c _ wr hS (by omega))
          clear hl
          go_wp2_with fail
          refine HC.out.mono ?_
          rintro e w2 ⟨rfl, hb2⟩
          have HB2 := Lib.hid (HB.out.trans (hb2.mono HB.out.size))
          clear hb2
          go_wp2_with fail
          go_ret
          exact ⟨by rw [t_run]; rfl, HB2.out⟩
        | lift x hx =>
          simp only [Tm.kind, Tm.name, Tm.other, Tm.n, Tm.ty, Tm.res, Tm.args, Ty.kind_mk, Ty.args_mk, List.length_nil, List.length_cons, Nat.zero_add] at d0 d1 d2 d3 d4 d5 d6 d7 d8
          have hl := HL.out
          rw [t_lift] at hl
          simp only [List.length_cons, List.length_append, List.length_nil] at hl
          have HC := Lib.hid (long_lift x.text tp tc rp rc p c _ wr hS (by omega))
          clear hl
          go_wp2_with fail
          refine HC.out.mono ?_
          rintro e w2 ⟨rfl, hb2⟩
          have HB2 := Lib.hid (HB.out.trans (hb2.mono HB.out.size))
          clear hb2
          go_wp2_with fail
          go_ret
          exact ⟨by rw [t_lift]; rfl, HB2.out⟩
        | cond x y z hx hy hz =>
          simp only [Tm.kind, Tm.name, Tm.other, Tm.n, Tm.ty, Tm.res, Tm.args, Ty.kind_mk, Ty.args_mk, List.length_nil, List.length_cons, Nat.zero_add, Nat.reduceAdd] at d0 d1 d2 d3 d4 d5 d6 d7 d8
          have hl := HL.out
          rw [t_cond] at hl
          simp only [List.length_cons, List.length_append, List.length_nil] at hl
          have HC := Lib.hid (long_cond x.text y.text z.text _ tp tc rp rc p c _ wr hS rfl (by simp only [List.length_append, List.length_cons]; omega))
          clear hl
          go_wp2_with fail
          refine HC.out.mono ?_
          rintro e w2 ⟨rfl, hb2⟩
          have HB2 := Lib.hid (HB.out.trans (hb2.mono HB.out.size))
          clear hb2
          go_wp2_with fail
          go_ret
          exact ⟨by rw [t_cond]; simp, HB2.out⟩
        | app x y hx hy =>
          simp only [Tm.kind, Tm.name, Tm.other, Tm.n, Tm.ty, Tm.res, Tm.args, Ty.kind_mk, Ty.args_mk, List.length_nil, List.length_cons, Nat.zero_add, Nat.reduceAdd] at d0 d1 d2 d3 d4 d5 d6 d7 d8
          have hl := HL.out
          rw [t_app] at hl
          simp only [List.length_cons, List.length_append, List.length_nil] at hl
          have HC := Lib.hid (long_app x.text y.text _ tp tc rp rc p c _ wr hS rfl (by simp only [List.length_append, List.length_cons]; omega))
          clear hl
          go_wp2_with fail
          refine HC.out.mono ?_
          rintro e w2 ⟨rfl, hb2⟩
          have HB2 := Lib.hid (HB.out.trans (hb2.mono HB.out.size))
          clear hb2
          go_wp2_with fail
          go_ret
          exact ⟨by rw [t_app]; simp, HB2.out⟩
        | bind a h x y hx hy =>
          simp only [Tm.kind, Tm.name, Tm.other, Tm.n, Tm.ty, Tm.res, Tm.args, Ty.kind_mk, Ty.args_mk, List.length_nil, List.length_cons, Nat.zero_add, Nat.reduceAdd] at d0 d1 d2 d3 d4 d5 d6 d7 d8
          have hl := HL.out
          rw [t_bind] at hl
          simp only [List.length_cons, List.length_append, List.length_nil] at hl
          have HC := Lib.hid (long_bind a x.text y.text _ tp tc rp rc p c _ wr hS rfl (by simp only [List.length_append, List.length_cons]; omega) hna)
          clear hl
          go_wp2_with fail
          refine HC.out.mono ?_
          rintro e w2 ⟨rfl, hb2⟩
          have HB2 := Lib.hid (HB.out.trans (hb2.mono HB.out.size))
          clear hb2
          go_wp2_with fail
          go_ret
          exact ⟨by rw [t_bind]; simp, HB2.out⟩
        | lam a h ty hv x hx =>
          simp only [Tm.kind, Tm.name, Tm.other, Tm.n, Tm.ty, Tm.res, Tm.args, Ty.kind_mk, Ty.args_mk, List.length_nil, List.length_cons, Nat.zero_add] at d0 d1 d2 d3 d4 d5 d6 d7 d8
          have hl := HL.out
          rw [t_lam] at hl
          simp only [List.length_cons, List.length_append, List.length_nil] at hl
          have HC := Lib.hid (long_lam a ty x.text tp tc rp rc p c _ wr hS hv (HT.out.ty.keep HB.out) (by omega) hna)
          clear hl
          go_wp2_with fail
          refine HC.out.mono ?_
          rintro e w2 ⟨rfl, hb2⟩
          have HB2 := Lib.hid (HB.out.trans (hb2.mono HB.out.size))
          clear hb2
          go_wp2_with fail
          go_ret
          exact ⟨by rw [t_lam]; rfl, HB2.out⟩
        | fix a o ha hb hab ty res hv hv2 x hx =>
          simp only [Tm.kind, Tm.name, Tm.other, Tm.n, Tm.ty, Tm.res, Tm.args, List.length_nil, List.length_cons, Nat.zero_add] at d0 d1 d2 d3 d4 d5 d6 d7 d8
          have hl := HL.out
          rw [t_fix] at hl
          simp only [List.length_cons, List.length_append, List.length_nil] at hl
          have HC := Lib.hid (long_fix a o ty res x.text tp tc rp rc p c _ wr hS hv hv2 (HT.out.ty.keep HB.out) (HT.out.res.keep HB.out) (by omega) hna hno)
          clear hl
          go_wp2_with fail
          refine HC.out.mono ?_
          rintro e w2 ⟨rfl, hb2⟩
          have HB2 := Lib.hid (HB.out.trans (hb2.mono HB.out.size))
          clear hb2
          go_wp2_with fail
          go_ret
          exact ⟨by rw [t_fix]; rfl, HB2.out⟩
set_option maxRecDepth 100000 in
set_option maxHeartbeats 1000000 in
theorem fmtTermS_any {C : Nat → Prop} {t : Tm} {v : Value} {w : World} (h : TM w C t v) (hn : t.wt ≤ 2097152) (x : List UInt8) (hx : (t.Valid ∧ x = t.text) ∨ (¬ t.Valid ∧ x = [])) :
    Calls Tryz.prog 184 #[v] w (StrRet x w) := by
  have HV := Lib.hid (fun w' (hb : Below w.heap.size w w') => h.keep hb)
  obtain ⟨tp, tc, rp, rc, p, c, rfl, hT⟩ := h
  have HT := Lib.hid hT
  have HX := Lib.hid (Bx9.new w t tp tc rp rc p c 29)
  have HB := Lib.hid (al_below w (.cells (tmC t tp tc rp rc p c) 29))
  have HXX := Lib.hid hx
  clear hT hx
  go_enter Tryz.func184, Tryz.ntmps184
  go_wp2_with fail
  refine (validM_any (HV.out _ HB.out) hn).mono ?_
  rintro e w1 ⟨r, hr, rfl, hb1⟩
  have HB1 := Lib.hid (HB.out.trans (hb1.mono HB.out.size))
  obtain ⟨g0, g1, g2, g3, g4, g5, g6, g7, g8⟩ := HX.out.keep hb1
  clear hb1
  rcases HXX.out with ⟨hi, rfl⟩ | ⟨hi, rfl⟩
  · obtain rfl : r = true := hr.2 hi
    have HC := Lib.hid (txS_any _ w1 (Nat.le_refl _) (HT.out.stays (.of_below HB1.out)) hn hi.2.2)
    clear hr
    go_wp2_with fail
    refine HC.out.mono ?_
    rintro e w2 ⟨rfl, hb2⟩
    have HB2 := Lib.hid (HB1.out.trans (hb2.mono HB1.out.size))
    clear hb2
    go_wp2_with fail
    go_ret
    exact ⟨rfl, HB2.out⟩
  · obtain rfl : r = false := by
      cases r with
      | false => rfl
      | true => exact absurd (hr.1 rfl) hi
    clear hr
    go_wp2_with fail
    go_ret
    exact ⟨rfl, HB1.out⟩
end Go.Proofs.YtfeijijeohfpgaaGreatDoor
namespace Go.Proofs.YtfeijijeohfpgaaGreatDoor
open Go
section
variable (k n : Int) (a o : ByteArray) (t r : Ty) (ts : List Tm) (us : List Ty)
theorem cKind : (Tm.mk k a o n t r ts).kind = k := rfl
theorem cName : (Tm.mk k a o n t r ts).name = a := rfl
theorem cOther : (Tm.mk k a o n t r ts).other = o := rfl
theorem cN : (Tm.mk k a o n t r ts).n = n := rfl
theorem cTy : (Tm.mk k a o n t r ts).ty = t := rfl
theorem cRes : (Tm.mk k a o n t r ts).res = r := rfl
theorem cArgs : (Tm.mk k a o n t r ts).args = ts := rfl
theorem yKind : (Ty.mk k us).kind = k := rfl
theorem yArgs : (Ty.mk k us).args = us := rfl
end
end Go.Proofs.YtfeijijeohfpgaaGreatDoor
namespace Go.Proofs.YtfeijijeohfpgaaGreatDoor
open Go Go.RowKit
structure TR (w : World) (R : Nat) (s : ByteArray) (q : Option Nat) (W : World) : Prop where
  rd : RdO W R s q
  grown : w.grownBy W (some R)
  out : W.heap[w.heap.size]? = some (.cells zeroC 29 (0, 0))
  hR : R < w.heap.size
section
variable {w W W' : World} {R : Nat} {s : ByteArray} {q q' : Option Nat}
theorem TR.lt (h : TR w R s q W) : w.heap.size < W.heap.size := (Array.getElem?_eq_some_iff.1 h.out).1
theorem TR.step (h : TR w R s q W) (hr : RdO W' R s q') (hg : W.grownBy W' (some R)) : TR w R s q' W' :=
  have hR := h.hR
  have hl := h.lt
  ⟨hr, grownBy_trans h.grown hg, (hg.block _ hl (fun e => by have := Option.some.inj e; omega)).trans h.out, hR⟩
theorem TR.below (h : TR w R s q W) (hb : Below W.heap.size W W') : TR w R s q W' := h.step (h.rd.below hb) (gb_below hb (some R))
theorem TR.fin {f' : Nat → Option (Tm × Nat)} {o : Option Nat} {t : Tm} {tp rp p : Option Addr} {tc rc c : Nat} (h : TR w R s q W) (hN : TM' W (fun z => w.heap.size + 1 ≤ z) t tp tc rp rc p c) (ho : termO f' o t q) :
    TermRet f' R s o w (.returned (tmV t tp tc rp rc p c)) (((((((((W.setCell ⟨w.heap.size, 0, none⟩ (.int .i64 t.kind)).setCell ⟨w.heap.size, 1, none⟩ (.string t.name)).setCell ⟨w.heap.size, 2, none⟩ (.string t.other)).setCell ⟨w.heap.size, 3, none⟩ (.int .i64 t.n)).setCell ⟨w.heap.size, 4, none⟩ (.int .i64 t.ty.kind)).setCell ⟨w.heap.size, 5, none⟩ (.slice tp t.ty.args.length tc)).setCell ⟨w.heap.size, 6, none⟩ (.int .i64 t.res.kind)).setCell ⟨w.heap.size, 7, none⟩ (.slice rp t.res.args.length rc)).setCell ⟨w.heap.size, 8, none⟩ (.slice p t.args.length c)) :=
  tm_fin h.grown h.hR h.rd hN ho
end
theorem tr_start {w : World} {R : Nat} {s : ByteArray} {q : Option Nat} (hr : RdO w R s q) : TR w R s q (w.alloc (.cells zeroC 29)) := by
  obtain ⟨w0, hw0, hs0, hb0, r0⟩ := box_new w zeroC 29
  rw [hw0]
  exact ⟨hr.below hb0, gb_below hb0 _, r0, hr.lt⟩
set_option maxRecDepth 100000 in
set_option maxHeartbeats 8000000 in
theorem l6zero {f' : Nat → Option (Tm × Nat)} {R : Nat} {s : ByteArray} (D : Int) (o : Option Nat) (w : World) (hr : RdO w R s o) (hc : o = none ∨ 20 < D ∨ ∃ i, o = some i ∧ s.size ≤ i) (ho : ∀ i, o = some i → f' i = none) :
    Calls Tryz.prog 183 #[.pointer (some ⟨R, 0, none⟩), .int .i64 D] w (TermRet f' R s o w) := by
  have hx0 := tr_start hr
  have hfin : termO f' o zeroM none := by
    cases o with
    | none => rfl
    | some i => exact Or.inr ⟨ho i rfl, rfl⟩
  have HFIN := Lib.hid hfin
  have HX0 := Lib.hid hx0
  obtain ⟨i, hi, hrd⟩ := hx0.rd.cells
  have HHI := Lib.hid hi
  clear hr hx0 hfin ho
  go_enter Tryz.func183, Tryz.ntmps183
  cases o with
  | none =>
    obtain ⟨d0, d1, d2, dz1, dz2⟩ := (show Rd _ R s i true from hrd).cells
    have HRD := Lib.hid (show Rd _ R s i true from hrd)
    clear hrd hc
    go_wp2_with fail
    have hx2 : TR w R s none ((w.alloc (.cells zeroC 29)).setCell ⟨R, 2, none⟩ (.bool true)).drew :=
      HX0.out.step ⟨i, HHI.out, (HRD.out.set true).1⟩ (grownBy_trans (HRD.out.set true).2 (gb_drew (grown_refl _ _)))
    have HX2 := Lib.hid hx2
    clear hx2
    go_region
    have hx2 := HX2.out
    clear HX2
    generalize ((w.alloc (.cells #[.int .i64 0, .string ⟨#[]⟩, .string ⟨#[]⟩, .int .i64 0, .int .i64 0, .slice none 0 0, .int .i64 0, .slice none 0 0, .slice none 0 0] 29)).setCell ⟨R, 2, none⟩ (.bool true)).drew = w2 at hx2 ⊢
    clear d0 d1 d2 dz1 dz2
    obtain ⟨i2, hi2, hrd2⟩ := hx2.rd
    obtain ⟨d0, d1, d2, dz1, dz2⟩ := hrd2.cells
    have q0 := cell_of_blk hx2.out 0
    have q1 := cell_of_blk hx2.out 1
    have q2 := cell_of_blk hx2.out 2
    have q3 := cell_of_blk hx2.out 3
    have q4 := cell_of_blk hx2.out 4
    have q5 := cell_of_blk hx2.out 5
    have q6 := cell_of_blk hx2.out 6
    have q7 := cell_of_blk hx2.out 7
    have q8 := cell_of_blk hx2.out 8
    have qz := unfrozen_of_blk hx2.out
    simp only [List.getElem?_toArray, List.getElem?_cons_zero, List.getElem?_cons_succ] at q0 q1 q2 q3 q4 q5 q6 q7 q8
    have HX2 := Lib.hid hx2
    clear hrd2 hx2
    go_wp2_with fail
    refine bodyPost_ret (v := tmV zeroM none 0 none 0 none 0) ?_ rfl ?_
    · rw [results_cell1 rfl]
      go_simp
      all_goals (repeat' apply And.intro) <;> rfl
    · exact HX2.out.fin (t := zeroM) ⟨.nil _ _, .nil _ _, .nil _ _ _ _⟩ HFIN.out
  | some j =>
    obtain ⟨d0, d1, d2, dz1, dz2⟩ := (show Rd _ R s i false from hrd).cells
    have HRD := Lib.hid (show Rd _ R s i false from hrd)
    have hij : i = j := by
      have h1 := hrd.cells.2.1
      have h2 := (show Rd _ R s j false from HX0.out.rd.2).cells.2.1
      rw [h1] at h2
      have := Option.some.inj h2
      injection this with _ h3
      omega
    subst hij
    clear hrd
    by_cases hd : 20 < D
    · have hdd : decide (20 < D) = true := decide_eq_true hd
      clear hc
      go_wp2_with fail
      have hx2 : TR w R s none ((w.alloc (.cells zeroC 29)).setCell ⟨R, 2, none⟩ (.bool true)).drew :=
        HX0.out.step ⟨i, HHI.out, (HRD.out.set true).1⟩ (grownBy_trans (HRD.out.set true).2 (gb_drew (grown_refl _ _)))
      have HX2 := Lib.hid hx2
      clear hx2
      go_region
      have hx2 := HX2.out
      clear HX2
      generalize ((w.alloc (.cells #[.int .i64 0, .string ⟨#[]⟩, .string ⟨#[]⟩, .int .i64 0, .int .i64 0, .slice none 0 0, .int .i64 0, .slice none 0 0, .slice none 0 0] 29)).setCell ⟨R, 2, none⟩ (.bool true)).drew = w2 at hx2 ⊢
      clear d0 d1 d2 dz1 dz2
      obtain ⟨i2, hi2, hrd2⟩ := hx2.rd
      obtain ⟨d0, d1, d2, dz1, dz2⟩ := hrd2.cells
      have q0 := cell_of_blk hx2.out 0
      have q1 := cell_of_blk hx2.out 1
      have q2 := cell_of_blk hx2.out 2
      have q3 := cell_of_blk hx2.out 3
      have q4 := cell_of_blk hx2.out 4
      have q5 := cell_of_blk hx2.out 5
      have q6 := cell_of_blk hx2.out 6
      have q7 := cell_of_blk hx2.out 7
      have q8 := cell_of_blk hx2.out 8
      have qz := unfrozen_of_blk hx2.out
      simp only [List.getElem?_toArray, List.getElem?_cons_zero, List.getElem?_cons_succ] at q0 q1 q2 q3 q4 q5 q6 q7 q8
      have HX2 := Lib.hid hx2
      clear hrd2 hx2
      go_wp2_with fail
      refine bodyPost_ret (v := tmV zeroM none 0 none 0 none 0) ?_ rfl ?_
      · rw [results_cell1 rfl]
        go_simp
        all_goals (repeat' apply And.intro) <;> rfl
      · exact HX2.out.fin (t := zeroM) ⟨.nil _ _, .nil _ _, .nil _ _ _ _⟩ HFIN.out
    · have hge : decide (s.size ≤ i) = true := by
        rcases hc with h | h | ⟨k, h, h2⟩
        · cases h
        · exact absurd h hd
        · cases h; exact decide_eq_true h2
      have hdd : decide (20 < D) = false := decide_eq_false hd
      clear hc
      go_wp2_with fail
      have hx2 : TR w R s none ((w.alloc (.cells zeroC 29)).setCell ⟨R, 2, none⟩ (.bool true)).drew :=
        HX0.out.step ⟨i, HHI.out, (HRD.out.set true).1⟩ (grownBy_trans (HRD.out.set true).2 (gb_drew (grown_refl _ _)))
      have HX2 := Lib.hid hx2
      clear hx2
      go_region
      have hx2 := HX2.out
      clear HX2
      generalize ((w.alloc (.cells #[.int .i64 0, .string ⟨#[]⟩, .string ⟨#[]⟩, .int .i64 0, .int .i64 0, .slice none 0 0, .int .i64 0, .slice none 0 0, .slice none 0 0] 29)).setCell ⟨R, 2, none⟩ (.bool true)).drew = w2 at hx2 ⊢
      clear d0 d1 d2 dz1 dz2
      obtain ⟨i2, hi2, hrd2⟩ := hx2.rd
      obtain ⟨d0, d1, d2, dz1, dz2⟩ := hrd2.cells
      have q0 := cell_of_blk hx2.out 0
      have q1 := cell_of_blk hx2.out 1
      have q2 := cell_of_blk hx2.out 2
      have q3 := cell_of_blk hx2.out 3
      have q4 := cell_of_blk hx2.out 4
      have q5 := cell_of_blk hx2.out 5
      have q6 := cell_of_blk hx2.out 6
      have q7 := cell_of_blk hx2.out 7
      have q8 := cell_of_blk hx2.out 8
      have qz := unfrozen_of_blk hx2.out
      simp only [List.getElem?_toArray, List.getElem?_cons_zero, List.getElem?_cons_succ] at q0 q1 q2 q3 q4 q5 q6 q7 q8
      have HX2 := Lib.hid hx2
      clear hrd2 hx2
      go_wp2_with fail
      refine bodyPost_ret (v := tmV zeroM none 0 none 0 none 0) ?_ rfl ?_
      · rw [results_cell1 rfl]
        go_simp
        all_goals (repeat' apply And.intro) <;> rfl
      · exact HX2.out.fin (t := zeroM) ⟨.nil _ _, .nil _ _, .nil _ _ _ _⟩ HFIN.out
theorem pTm_succ (s : List UInt8) (D i : Nat) : pTm s (D + 1) i = if s.length ≤ i then none else if pre [35, 116] s i then some (mkT 3 [] 1 [], i + 2) else if pre [35, 102] s i then some (mkT 3 [] 0 [], i + 2)
    else if pre [126] s i then (pTm s D (i + 1)).map fun r => (mkT 11 [] 0 [r.1], r.2) else if pre [60] s i then (pts (pTm s D) s [62] (i + 1)).map fun r => (mkT 10 [] 0 r.1, r.2) else if pre [40] s i then pOpen s (pTm s D) (i + 1)
    else if ((s[i]?).map fun c => decide (48 ≤ c.toNat) && decide (c.toNat ≤ 57)) = some true then (if okNum 0 999999 (word s i) then some (mkT 2 [] (rd (word s i)) [], i + (word s i).length) else none) else some (mkT 1 (word s i) 0 [], i + (word s i).length) := by
  conv => lhs; unfold pTm
theorem splice_o {f : Nat → Option (Tm × Nat)} {i : Nat} {t : Tm} {o' : Option Nat} (h : termO f (some i) t o') : termO (fun i => (f i).map fun r => (mkT 11 [] 0 [r.1], r.2)) (some i) (.mk 11 E0 E0 0 Z0 Z0 [t]) o' := by
  rcases h with ⟨j, h, rfl⟩ | ⟨h, rfl⟩
  · exact Or.inl ⟨j, by simp only [h, Option.map_some]; rfl, rfl⟩
  · exact Or.inr ⟨by simp only [h, Option.map_none], rfl⟩
theorem quote_o {f : Nat → Option (Tm × Nat)} {s : List UInt8} {i : Nat} {t : Tm} {o' : Option Nat} (h : termO f (some i) t o') : termO (fun i => (pts f s [62] i).map fun r => (mkT 10 [] 0 r.1, r.2)) (some i) (.mk 10 E0 E0 0 Z0 Z0 [t]) (mustO [62] s o') := by
  rcases h with ⟨j, h, rfl⟩ | ⟨h, rfl⟩
  · by_cases hc : s[j]? = some 62
    · rw [must_yes1 hc]
      exact Or.inl ⟨j + 1, by simp only [pts, h, hc, if_true, Option.map_some]; rfl, rfl⟩
    · rw [must_no1 hc]
      exact Or.inr ⟨by simp only [pts, h, if_neg hc, Option.map_none], rfl⟩
  · rw [must_none]
    exact Or.inr ⟨by simp only [pts, h, Option.map_none], rfl⟩
theorem leaf_ret {W : World} (base : Nat) (k : Int) (a : ByteArray) (n : Int) : TM' W (fun z => base ≤ z) (leaf k a n) none 0 none 0 none 0 := ⟨.nil _ _, .nil _ _, .nil _ _ _ _⟩
set_option maxRecDepth 100000 in
set_option maxHeartbeats 16000000 in
theorem l6step {R : Nat} {s : ByteArray} (hs : s.size ≤ 1073741824) (k : Nat) (D : Int) (hD1 : 1 ≤ D) (hD : D ≤ 20) (IH : TermIs (pTm s.data.toList k) R s (D + 1)) (i : Nat) (hi : i < s.size) (w : World) (hr : Rd w R s i false) :
    Calls Tryz.prog 183 #[.pointer (some ⟨R, 0, none⟩), .int .i64 D] w (TermRet (pTm s.data.toList (k + 1)) R s (some i) w) := by
  have hx0 := tr_start (q := some i) ⟨Nat.le_of_lt hi, hr⟩
  have HX0 := Lib.hid hx0
  have HIH := Lib.hid IH
  have hge : decide (s.size ≤ i) = false := decide_eq_false (by omega)
  have hdd : decide (20 < D) = false := decide_eq_false (by omega)
  have HLEN := Lib.hid (show ¬ s.data.toList.length ≤ i by simpa using hi)
  obtain ⟨d0, d1, d2, dz1, dz2⟩ := (show Rd _ R s i false from hx0.rd.2).cells
  have HRD := Lib.hid (show Rd _ R s i false from hx0.rd.2)
  have HHI := Lib.hid (Nat.le_of_lt hi)
  clear hr hx0 IH
  go_enter Tryz.func183, Tryz.ntmps183
  go_wp2_with fail
  have hx2 : TR w R s (some i) ((w.alloc (.cells zeroC 29)).setCell ⟨R, 2, none⟩ (.bool false)).drew :=
    HX0.out.step ⟨HHI.out, (HRD.out.set false).1⟩ (grownBy_trans (HRD.out.set false).2 (gb_drew (grown_refl _ _)))
  have HX2 := Lib.hid hx2
  clear hx2
  go_region
  have hx2 := HX2.out
  clear HX2
  generalize ((w.alloc (.cells #[.int .i64 0, .string ⟨#[]⟩, .string ⟨#[]⟩, .int .i64 0, .int .i64 0, .slice none 0 0, .int .i64 0, .slice none 0 0, .slice none 0 0] 29)).setCell ⟨R, 2, none⟩ (.bool false)).drew = w2 at hx2 ⊢
  clear d0 d1 d2 dz1 dz2
  clear hge hdd
  obtain ⟨d0, d1, d2, dz1, dz2⟩ := (show Rd w2 R s i false from hx2.rd.2).cells
  have HL0 := Lib.hid hx2
  clear hx2
  have HQ1 := Lib.hid (takeO_any [35, 116] (by decide) hs HL0.out.rd)
  go_wp2_with fail
  refine HQ1.out.mono ?_
  rintro e w21 ⟨rfl, hr1, hg1⟩
  have HL1 := Lib.hid (HL0.out.step hr1 hg1)
  clear hr1 hg1 d0 d1 d2 dz1 dz2
  obtain ⟨bb, hbb⟩ : ∃ b, takes [35, 116] s.data.toList (some i) = b := ⟨_, rfl⟩
  rw [hbb]
  have HBB := Lib.hid hbb
  clear hbb
  cases bb
  rotate_left
  · obtain ⟨j, hji, hyes, htk⟩ := takes_yesq HBB.out
    obtain rfl := Option.some.inj hji
    have hLY := HL1.out
    rw [show takeO [35, 116] s.data.toList (some i) = some (i + 2) from htk] at hLY
    have HLY := Lib.hid hLY
    have HYES := Lib.hid hyes
    clear hLY hyes htk HL1 hji
    have HLF := Lib.hid (fun W => l5Bool_any 1 W)
    go_wp2_with fail
    refine (HLF.out _).mono ?_
    rintro e we ⟨rfl, hbe⟩
    have hx := HLY.out.below hbe
    have q0 := cell_of_blk hx.out 0
    have q1 := cell_of_blk hx.out 1
    have q2 := cell_of_blk hx.out 2
    have q3 := cell_of_blk hx.out 3
    have q4 := cell_of_blk hx.out 4
    have q5 := cell_of_blk hx.out 5
    have q6 := cell_of_blk hx.out 6
    have q7 := cell_of_blk hx.out 7
    have q8 := cell_of_blk hx.out 8
    have qz := unfrozen_of_blk hx.out
    simp only [List.getElem?_toArray, List.getElem?_cons_zero, List.getElem?_cons_succ] at q0 q1 q2 q3 q4 q5 q6 q7 q8
    have HX := Lib.hid hx
    clear hx hbe
    go_wp2_with fail
    refine bodyPost_ret (v := leafV 3 ⟨#[]⟩ 1) ?_ rfl ?_
    · rw [results_cell1 rfl]
      go_simp
      all_goals (repeat' apply And.intro) <;> rfl
    · exact HX.out.fin (t := leaf 3 ⟨#[]⟩ 1) (leaf_ret _ _ _ _) (Or.inl ⟨i + 2, by unfold pTm; rw [if_neg HLEN.out, if_pos HYES.out]; rfl, rfl⟩)
  have hL1b := HL1.out
  rw [(takes_no HBB.out).1] at hL1b
  have HL1b := Lib.hid hL1b
  have HN1 := Lib.hid (takes_no HBB.out).2
  clear hL1b HL1 HBB
  have HQ2 := Lib.hid (takeO_any [35, 102] (by decide) hs HL1b.out.rd)
  go_wp2_with fail
  refine HQ2.out.mono ?_
  rintro e w22 ⟨rfl, hr2, hg2⟩
  have HL2 := Lib.hid (HL1b.out.step hr2 hg2)
  clear hr2 hg2
  obtain ⟨bb, hbb⟩ : ∃ b, takes [35, 102] s.data.toList (some i) = b := ⟨_, rfl⟩
  rw [hbb]
  have HBB := Lib.hid hbb
  clear hbb
  cases bb
  rotate_left
  · obtain ⟨j, hji, hyes, htk⟩ := takes_yesq HBB.out
    obtain rfl := Option.some.inj hji
    have hLY := HL2.out
    rw [show takeO [35, 102] s.data.toList (some i) = some (i + 2) from htk] at hLY
    have HLY := Lib.hid hLY
    have HYES := Lib.hid hyes
    clear hLY hyes htk HL2 hji
    have HLF := Lib.hid (fun W => l5Bool_any 0 W)
    go_wp2_with fail
    refine (HLF.out _).mono ?_
    rintro e we ⟨rfl, hbe⟩
    have hx := HLY.out.below hbe
    have q0 := cell_of_blk hx.out 0
    have q1 := cell_of_blk hx.out 1
    have q2 := cell_of_blk hx.out 2
    have q3 := cell_of_blk hx.out 3
    have q4 := cell_of_blk hx.out 4
    have q5 := cell_of_blk hx.out 5
    have q6 := cell_of_blk hx.out 6
    have q7 := cell_of_blk hx.out 7
    have q8 := cell_of_blk hx.out 8
    have qz := unfrozen_of_blk hx.out
    simp only [List.getElem?_toArray, List.getElem?_cons_zero, List.getElem?_cons_succ] at q0 q1 q2 q3 q4 q5 q6 q7 q8
    have HX := Lib.hid hx
    clear hx hbe
    go_wp2_with fail
    refine bodyPost_ret (v := leafV 3 ⟨#[]⟩ 0) ?_ rfl ?_
    · rw [results_cell1 rfl]
      go_simp
      all_goals (repeat' apply And.intro) <;> rfl
    · exact HX.out.fin (t := leaf 3 ⟨#[]⟩ 0) (leaf_ret _ _ _ _) (Or.inl ⟨i + 2, by unfold pTm; rw [if_neg HLEN.out, if_neg (by rw [HN1.out _ rfl]; decide), if_pos HYES.out]; rfl, rfl⟩)
  have hL2b := HL2.out
  rw [(takes_no HBB.out).1] at hL2b
  have HL2b := Lib.hid hL2b
  have HN2 := Lib.hid (takes_no HBB.out).2
  clear hL2b HL2 HBB
  have HQ3 := Lib.hid (takeO_any [126] (by decide) hs HL2b.out.rd)
  go_wp2_with fail
  refine HQ3.out.mono ?_
  rintro e w3 ⟨rfl, hr3, hg3⟩
  have HL3 := Lib.hid (HL2b.out.step hr3 hg3)
  clear hr3 hg3
  obtain ⟨bb, hbb⟩ : ∃ b, takes [126] s.data.toList (some i) = b := ⟨_, rfl⟩
  rw [hbb]
  have HBB := Lib.hid hbb
  clear hbb
  cases bb
  rotate_left
  · obtain ⟨j, hji, hyes, htk⟩ := takes_yesq HBB.out
    obtain rfl := Option.some.inj hji
    have hLY := HL3.out
    rw [show takeO [126] s.data.toList (some i) = some (i + 1) from htk] at hLY
    have HLY := Lib.hid hLY
    have HYES := Lib.hid hyes
    clear hLY hyes htk HL3 hji
    have HC := Lib.hid (HIH.out _ _ HLY.out.rd)
    go_wp2_with fail
    refine HC.out.mono ?_
    rintro e wa ⟨va, ta, oa, rfl, ⟨tp, tc, rp, rc, p, c, rfl, hN⟩, hoa, hra, hga⟩
    have hxa := HLY.out.step hra hga
    have hxb := hxa.below (al_below wa (.cells (tmC ta tp tc rp rc p c) 29))
    have hlo := HLY.out.lt
    have hrow := rowm_lit (C' := fun z => w.heap.size + 1 ≤ z) hN (fun z hz _ => by have : w3.heap.size ≤ z := hz; omega) (by have := hxa.lt; omega)
    have q0 := cell_of_blk hxb.out 0
    have q1 := cell_of_blk hxb.out 1
    have q2 := cell_of_blk hxb.out 2
    have q3 := cell_of_blk hxb.out 3
    have q4 := cell_of_blk hxb.out 4
    have q5 := cell_of_blk hxb.out 5
    have q6 := cell_of_blk hxb.out 6
    have q7 := cell_of_blk hxb.out 7
    have q8 := cell_of_blk hxb.out 8
    have qz := unfrozen_of_blk hxb.out
    simp only [tmC, List.getElem?_toArray, List.getElem?_cons_zero, List.getElem?_cons_succ] at q0 q1 q2 q3 q4 q5 q6 q7 q8
    have HXB := Lib.hid hxb
    have HROW := Lib.hid hrow
    have HOA := Lib.hid hoa
    clear hxa hxb hrow hoa hra hga hN hlo
    go_wp2_with fail
    refine bodyPost_ret (v := tmV (.mk 11 E0 E0 0 Z0 Z0 [ta]) none 0 none 0 (some ⟨wa.heap.size, 0, none⟩) 1) ?_ rfl ?_
    · rw [results_cell1 rfl]
      go_simp
      all_goals (repeat' apply And.intro) <;> rfl
    · exact HXB.out.fin (t := .mk 11 E0 E0 0 Z0 Z0 [ta]) ⟨.nil _ _, .nil _ _, HROW.out⟩ (termO_at (g := fun i => (pTm s.data.toList k i).map fun r => (mkT 11 [] 0 [r.1], r.2)) (i := i + 1) (by rw [pTm_succ, if_neg HLEN.out, if_neg (by rw [HN1.out _ rfl]; decide), if_neg (by rw [HN2.out _ rfl]; decide), if_pos HYES.out]) (splice_o HOA.out))
  have hL3b := HL3.out
  rw [(takes_no HBB.out).1] at hL3b
  have HL3b := Lib.hid hL3b
  have HN3 := Lib.hid (takes_no HBB.out).2
  clear hL3b HL3 HBB
  have HQ4 := Lib.hid (takeO_any [60] (by decide) hs HL3b.out.rd)
  go_wp2_with fail
  refine HQ4.out.mono ?_
  rintro e w4 ⟨rfl, hr4, hg4⟩
  have HL4 := Lib.hid (HL3b.out.step hr4 hg4)
  clear hr4 hg4
  obtain ⟨bb, hbb⟩ : ∃ b, takes [60] s.data.toList (some i) = b := ⟨_, rfl⟩
  rw [hbb]
  have HBB := Lib.hid hbb
  clear hbb
  cases bb
  rotate_left
  · obtain ⟨j, hji, hyes, htk⟩ := takes_yesq HBB.out
    obtain rfl := Option.some.inj hji
    have hLY := HL4.out
    rw [show takeO [60] s.data.toList (some i) = some (i + 1) from htk] at hLY
    have HLY := Lib.hid hLY
    have HYES := Lib.hid hyes
    clear hLY hyes htk HL4 hji
    have HC := Lib.hid (HIH.out _ _ HLY.out.rd)
    go_wp2_with fail
    refine HC.out.mono ?_
    rintro e wa ⟨va, ta, oa, rfl, ⟨tp, tc, rp, rc, p, c, rfl, hN⟩, hoa, hra, hga⟩
    have hxa := HLY.out.step hra hga
    have hlo := HLY.out.lt
    have hla := hxa.lt
    have hrow0 := rowm_lit (C' := fun z => w.heap.size + 1 ≤ z) hN (fun z hz _ => by have : w4.heap.size ≤ z := hz; omega) (by omega)
    obtain ⟨wb, hwb, hsb, hbb', rb1, rb2⟩ := box_new2 wa (tmC ta tp tc rp rc p c) #[.int .i64 10, .string ⟨#[]⟩, .string ⟨#[]⟩, .int .i64 0, .int .i64 0, .slice none 0 0, .int .i64 0, .slice none 0 0, .slice (some ⟨wa.heap.size, 0, none⟩) 1 1] 29 29
    have hxb := hxa.below hbb'
    have hrow : DM wb (fun z => w.heap.size + 1 ≤ z) (tmD [ta]) (.slice (some ⟨wa.heap.size, 0, none⟩) 1 1) := by
      rw [← hwb]
      exact hrow0.keep (al_below _ _)
    have HXB := Lib.hid hxb
    have HROW := Lib.hid hrow
    have HOA := Lib.hid hoa
    have HWB := Lib.hid hwb
    have HRB2 := Lib.hid rb2
    have HQB := Lib.hid (mustO_any [62] (by decide) hs hxb.rd)
    have HLA := Lib.hid (And.intro hla hsb)
    clear hxa hxb hrow hrow0 hoa hra hga hN hlo hla hwb hbb' rb1 rb2 hsb
    go_wp2_with fail
    rw [HWB.out]
    refine HQB.out.mono ?_
    rintro e wc ⟨rfl, hrc, hgc⟩
    have hxc := HXB.out.step hrc hgc
    have hrc2 : wc.heap[wa.heap.size + 1]? = _ := (hgc.block _ (by have := HLA.out; omega) (fun e => by have := Option.some.inj e; have := HXB.out.hR; have := HLA.out; omega)).trans HRB2.out
    have q0 := cell_of_blk hxc.out 0
    have q1 := cell_of_blk hxc.out 1
    have q2 := cell_of_blk hxc.out 2
    have q3 := cell_of_blk hxc.out 3
    have q4 := cell_of_blk hxc.out 4
    have q5 := cell_of_blk hxc.out 5
    have q6 := cell_of_blk hxc.out 6
    have q7 := cell_of_blk hxc.out 7
    have q8 := cell_of_blk hxc.out 8
    have qz := unfrozen_of_blk hxc.out
    simp only [List.getElem?_toArray, List.getElem?_cons_zero, List.getElem?_cons_succ] at q0 q1 q2 q3 q4 q5 q6 q7 q8
    have r0 := cell_of_blk hrc2 0
    have r1 := cell_of_blk hrc2 1
    have r2 := cell_of_blk hrc2 2
    have r3 := cell_of_blk hrc2 3
    have r4 := cell_of_blk hrc2 4
    have r5 := cell_of_blk hrc2 5
    have r6 := cell_of_blk hrc2 6
    have r7 := cell_of_blk hrc2 7
    have r8 := cell_of_blk hrc2 8
    have rz := unfrozen_of_blk hrc2
    simp only [List.getElem?_toArray, List.getElem?_cons_zero, List.getElem?_cons_succ] at r0 r1 r2 r3 r4 r5 r6 r7 r8
    have HXC := Lib.hid hxc
    have HROWC := Lib.hid (HROW.out.stays (stays_grown hgc (fun z hz => by have := HXB.out.hR; have : w.heap.size + 1 ≤ z := hz; omega)))
    clear hxc hrc hgc hrc2
    go_wp2_with fail
    refine bodyPost_ret (v := tmV (.mk 10 E0 E0 0 Z0 Z0 [ta]) none 0 none 0 (some ⟨wa.heap.size, 0, none⟩) 1) ?_ rfl ?_
    · rw [results_cell1 rfl]
      go_simp
      all_goals (repeat' apply And.intro) <;> rfl
    · exact HXC.out.fin (t := .mk 10 E0 E0 0 Z0 Z0 [ta]) ⟨.nil _ _, .nil _ _, HROWC.out⟩ (termO_at (g := fun i => (pts (pTm s.data.toList k) s.data.toList [62] i).map fun r => (mkT 10 [] 0 r.1, r.2)) (i := i + 1) (by rw [pTm_succ, if_neg HLEN.out, if_neg (by rw [HN1.out _ rfl]; decide), if_neg (by rw [HN2.out _ rfl]; decide), if_neg (by rw [HN3.out _ rfl]; decide), if_pos HYES.out]) (quote_o HOA.out))
  have hL4b := HL4.out
  rw [(takes_no HBB.out).1] at hL4b
  have HL4b := Lib.hid hL4b
  have HN4 := Lib.hid (takes_no HBB.out).2
  clear hL4b HL4 HBB
  have HQ5 := Lib.hid (takeO_any [40] (by decide) hs HL4b.out.rd)
  go_wp2_with fail
  refine HQ5.out.mono ?_
  rintro e w5 ⟨rfl, hr5, hg5⟩
  have HL5 := Lib.hid (HL4b.out.step hr5 hg5)
  clear hr5 hg5
  obtain ⟨bb, hbb⟩ : ∃ b, takes [40] s.data.toList (some i) = b := ⟨_, rfl⟩
  rw [hbb]
  have HBB := Lib.hid hbb
  clear hbb
  cases bb
  rotate_left
  · obtain ⟨j, hji, hyes, htk⟩ := takes_yesq HBB.out
    obtain rfl := Option.some.inj hji
    have hLY := HL5.out
    rw [show takeO [40] s.data.toList (some i) = some (i + 1) from htk] at hLY
    have HLY := Lib.hid hLY
    have HYES := Lib.hid hyes
    clear hLY hyes htk HL5 hji
    have HC := Lib.hid (l6Open_any HIH.out hs _ _ HLY.out.rd)
    go_wp2_with fail
    refine HC.out.mono ?_
    rintro e wa ⟨va, ta, oa, rfl, ⟨tp, tc, rp, rc, p, c, rfl, hN⟩, hoa, hra, hga⟩
    have hxa := HLY.out.step hra hga
    have q0 := cell_of_blk hxa.out 0
    have q1 := cell_of_blk hxa.out 1
    have q2 := cell_of_blk hxa.out 2
    have q3 := cell_of_blk hxa.out 3
    have q4 := cell_of_blk hxa.out 4
    have q5 := cell_of_blk hxa.out 5
    have q6 := cell_of_blk hxa.out 6
    have q7 := cell_of_blk hxa.out 7
    have q8 := cell_of_blk hxa.out 8
    have qz := unfrozen_of_blk hxa.out
    simp only [List.getElem?_toArray, List.getElem?_cons_zero, List.getElem?_cons_succ] at q0 q1 q2 q3 q4 q5 q6 q7 q8
    have HN0 := Lib.hid (hN.mono (C' := fun z => w.heap.size + 1 ≤ z) (fun z hz _ => by have := HLY.out.lt; have : w5.heap.size ≤ z := hz; omega))
    have HXA := Lib.hid hxa
    have HOA := Lib.hid hoa
    clear hxa hoa hra hga hN
    go_wp2_with fail
    refine bodyPost_ret (v := tmV ta tp tc rp rc p c) ?_ rfl ?_
    · rw [results_cell1 rfl]
      go_simp
      all_goals (repeat' apply And.intro) <;> rfl
    · exact HXA.out.fin HN0.out (termO_at (g := pOpen s.data.toList (pTm s.data.toList k)) (i := i + 1) (by rw [pTm_succ, if_neg HLEN.out, if_neg (by rw [HN1.out _ rfl]; decide), if_neg (by rw [HN2.out _ rfl]; decide), if_neg (by rw [HN3.out _ rfl]; decide), if_neg (by rw [HN4.out _ rfl]; decide), if_pos HYES.out]) HOA.out)
  have hL5b := HL5.out
  rw [(takes_no HBB.out).1] at hL5b
  have HL5b := Lib.hid hL5b
  have HN5 := Lib.hid (takes_no HBB.out).2
  clear hL5b HL5 HBB
  obtain ⟨d0, d1, d2, dz1, dz2⟩ := (show Rd w5 R s i false from HL5b.out.rd.2).cells
  have hi0 : (0 : Int) ≤ (i : Int) := by omega
  have hi1 : (i : Int) < (s.size : Int) := by omega
  have HAT := Lib.hid (at_byte hi)
  by_cases b1 : 48 ≤ s[i].toNat
  · have p48 : decide ((48 : Int) ≤ (s[i].toNat : Int)) = true := by simp; omega
    by_cases b2 : s[i].toNat ≤ 57
    · have p57 : decide ((s[i].toNat : Int) ≤ 57) = true := by simp; omega
      have HND := Lib.hid (show (decide (48 ≤ s[i].toNat) && decide (s[i].toNat ≤ 57)) = true by simp [b1, b2])
      clear b1 b2
      go_wp2_with fail
      go_quiet (fail)
      have HLQ := Lib.hid (HL5b.out.step (rdo_drewN HL5b.out.rd nq) (grownBy_drewN (grown_refl _ (some R)) nq))
      generalize w5.drewN nq = w6 at HLQ ⊢
      clear d0 d1 d2 dz1 dz2 p48 p57
      have HNM := Lib.hid (numO_any hs (Nat.le_of_lt hi) HLQ.out.rd.2)
      go_wp2_with fail
      refine HNM.out.mono ?_
      rintro e wa ⟨ta, oa, rfl, hoa, hra, hga⟩
      have hx := HLQ.out.step hra hga
      have q0 := cell_of_blk hx.out 0
      have q1 := cell_of_blk hx.out 1
      have q2 := cell_of_blk hx.out 2
      have q3 := cell_of_blk hx.out 3
      have q4 := cell_of_blk hx.out 4
      have q5 := cell_of_blk hx.out 5
      have q6 := cell_of_blk hx.out 6
      have q7 := cell_of_blk hx.out 7
      have q8 := cell_of_blk hx.out 8
      have qz := unfrozen_of_blk hx.out
      simp only [List.getElem?_toArray, List.getElem?_cons_zero, List.getElem?_cons_succ] at q0 q1 q2 q3 q4 q5 q6 q7 q8
      have HX := Lib.hid hx
      have HOA := Lib.hid hoa
      clear hx hra hga hoa
      go_wp2_with fail
      refine bodyPost_ret (v := leafV ta.kind ta.name ta.n) ?_ rfl ?_
      · rw [results_cell1 rfl]
        go_simp
        all_goals (repeat' apply And.intro) <;> rfl
      · have hd : ((s.data.toList[i]?).map fun c => decide (48 ≤ c.toNat) && decide (c.toNat ≤ 57)) = some true := by
          rw [HAT.out]
          simp only [Option.map_some, HND.out]
        refine HX.out.fin (t := leaf ta.kind ta.name ta.n) (leaf_ret _ _ _ _) ?_
        rcases HOA.out with ⟨h1, rfl, rfl⟩ | ⟨h1, rfl, rfl⟩
        · refine Or.inl ⟨_, ?_, rfl⟩
          unfold pTm
          rw [if_neg HLEN.out, if_neg (by rw [HN1.out _ rfl]; decide), if_neg (by rw [HN2.out _ rfl]; decide), if_neg (by rw [HN3.out _ rfl]; decide), if_neg (by rw [HN4.out _ rfl]; decide), if_neg (by rw [HN5.out _ rfl]; decide), if_pos hd, if_pos h1]
          rfl
        · refine Or.inr ⟨?_, rfl⟩
          unfold pTm
          rw [if_neg HLEN.out, if_neg (by rw [HN1.out _ rfl]; decide), if_neg (by rw [HN2.out _ rfl]; decide), if_neg (by rw [HN3.out _ rfl]; decide), if_neg (by rw [HN4.out _ rfl]; decide), if_neg (by rw [HN5.out _ rfl]; decide), if_pos hd, if_neg (by rw [h1]; decide)]
    · have p57 : decide ((s[i].toNat : Int) ≤ 57) = false := by simp; omega
      have HND := Lib.hid (show (decide (48 ≤ s[i].toNat) && decide (s[i].toNat ≤ 57)) = false by simp; omega)
      clear b1 b2
      go_wp2_with fail
      go_quiet (fail)
      have HLQ := Lib.hid (HL5b.out.step (rdo_drewN HL5b.out.rd nq) (grownBy_drewN (grown_refl _ (some R)) nq))
      generalize w5.drewN nq = w6 at HLQ ⊢
      clear d0 d1 d2 dz1 dz2 p48 p57
      have HWD := Lib.hid (wordO_any hs HLQ.out.rd)
      go_wp2_with fail
      refine HWD.out.mono ?_
      rintro e wa ⟨a, rfl, hal, ha, hra, hga⟩
      have HXA := Lib.hid (HLQ.out.step hra hga)
      have HA := Lib.hid (ha _ rfl)
      have HLF := Lib.hid (fun W => l5Var_any (bx a) W)
      clear hra hga ha
      go_wp2_with fail
      refine (HLF.out _).mono ?_
      rintro e we ⟨rfl, hbe⟩
      have hx := HXA.out.below hbe
      have q0 := cell_of_blk hx.out 0
      have q1 := cell_of_blk hx.out 1
      have q2 := cell_of_blk hx.out 2
      have q3 := cell_of_blk hx.out 3
      have q4 := cell_of_blk hx.out 4
      have q5 := cell_of_blk hx.out 5
      have q6 := cell_of_blk hx.out 6
      have q7 := cell_of_blk hx.out 7
      have q8 := cell_of_blk hx.out 8
      have qz := unfrozen_of_blk hx.out
      simp only [List.getElem?_toArray, List.getElem?_cons_zero, List.getElem?_cons_succ] at q0 q1 q2 q3 q4 q5 q6 q7 q8
      have HX := Lib.hid hx
      clear hx hbe
      go_wp2_with fail
      refine bodyPost_ret (v := leafV 1 (bx a) 0) ?_ rfl ?_
      · rw [results_cell1 rfl]
        go_simp
        all_goals (repeat' apply And.intro) <;> rfl
      · refine HX.out.fin (t := leaf 1 (bx a) 0) (leaf_ret _ _ _ _) (Or.inl ⟨_, ?_, rfl⟩)
        have hnd : ¬ ((s.data.toList[i]?).map fun c => decide (48 ≤ c.toNat) && decide (c.toNat ≤ 57)) = some true := by
          rw [HAT.out]
          simp only [Option.map_some, HND.out]
          decide
        rw [HA.out]
        unfold pTm
        rw [if_neg HLEN.out, if_neg (by rw [HN1.out _ rfl]; decide), if_neg (by rw [HN2.out _ rfl]; decide), if_neg (by rw [HN3.out _ rfl]; decide), if_neg (by rw [HN4.out _ rfl]; decide), if_neg (by rw [HN5.out _ rfl]; decide), if_neg hnd]
        rfl
  · have p48 : decide ((48 : Int) ≤ (s[i].toNat : Int)) = false := by simp; omega
    have HND := Lib.hid (show (decide (48 ≤ s[i].toNat) && decide (s[i].toNat ≤ 57)) = false by simp; omega)
    clear b1
    go_wp2_with fail
    go_quiet (fail)
    have HLQ := Lib.hid (HL5b.out.step (rdo_drewN HL5b.out.rd nq) (grownBy_drewN (grown_refl _ (some R)) nq))
    generalize w5.drewN nq = w6 at HLQ ⊢
    clear d0 d1 d2 dz1 dz2 p48
    have HWD := Lib.hid (wordO_any hs HLQ.out.rd)
    go_wp2_with fail
    refine HWD.out.mono ?_
    rintro e wa ⟨a, rfl, hal, ha, hra, hga⟩
    have HXA := Lib.hid (HLQ.out.step hra hga)
    have HA := Lib.hid (ha _ rfl)
    have HLF := Lib.hid (fun W => l5Var_any (bx a) W)
    clear hra hga ha
    go_wp2_with fail
    refine (HLF.out _).mono ?_
    rintro e we ⟨rfl, hbe⟩
    have hx := HXA.out.below hbe
    have q0 := cell_of_blk hx.out 0
    have q1 := cell_of_blk hx.out 1
    have q2 := cell_of_blk hx.out 2
    have q3 := cell_of_blk hx.out 3
    have q4 := cell_of_blk hx.out 4
    have q5 := cell_of_blk hx.out 5
    have q6 := cell_of_blk hx.out 6
    have q7 := cell_of_blk hx.out 7
    have q8 := cell_of_blk hx.out 8
    have qz := unfrozen_of_blk hx.out
    simp only [List.getElem?_toArray, List.getElem?_cons_zero, List.getElem?_cons_succ] at q0 q1 q2 q3 q4 q5 q6 q7 q8
    have HX := Lib.hid hx
    clear hx hbe
    go_wp2_with fail
    refine bodyPost_ret (v := leafV 1 (bx a) 0) ?_ rfl ?_
    · rw [results_cell1 rfl]
      go_simp
      all_goals (repeat' apply And.intro) <;> rfl
    · refine HX.out.fin (t := leaf 1 (bx a) 0) (leaf_ret _ _ _ _) (Or.inl ⟨_, ?_, rfl⟩)
      have hnd : ¬ ((s.data.toList[i]?).map fun c => decide (48 ≤ c.toNat) && decide (c.toNat ≤ 57)) = some true := by
        rw [HAT.out]
        simp only [Option.map_some, HND.out]
        decide
      rw [HA.out]
      unfold pTm
      rw [if_neg HLEN.out, if_neg (by rw [HN1.out _ rfl]; decide), if_neg (by rw [HN2.out _ rfl]; decide), if_neg (by rw [HN3.out _ rfl]; decide), if_neg (by rw [HN4.out _ rfl]; decide), if_neg (by rw [HN5.out _ rfl]; decide), if_neg hnd]
      rfl
theorem l6term_any (R : Nat) (s : ByteArray) (hs : s.size ≤ 1073741824) : ∀ (k : Nat), k ≤ 20 → TermIs (pTm s.data.toList k) R s (21 - (k : Int))
  | 0, _, o, W, hr => l6zero _ o W hr (Or.inr (Or.inl (by omega))) (fun _ _ => rfl)
  | k + 1, hk, o, W, hr => by
    cases o with
    | none => exact l6zero _ none W hr (Or.inl rfl) (fun _ h => by cases h)
    | some i =>
      by_cases hi : i < s.size
      · have IH := l6term_any R s hs k (by omega)
        rw [show (21 - (k : Int)) = 21 - ((k + 1 : Nat) : Int) + 1 by omega] at IH
        exact l6step hs k _ (by omega) (by omega) IH i hi W hr.2
      · refine l6zero _ (some i) W hr (Or.inr (Or.inr ⟨i, rfl, by omega⟩)) (fun j h => ?_)
        cases h
        unfold pTm
        rw [if_pos (by simp; omega)]
def MWeak (s : List UInt8) (w : World) (e : Ending) (w' : World) : Prop :=
  ∃ t o v, e = .returned (.tuple #[v, .bool o]) ∧ t.wt ≤ s.length ∧ TM w' (fun z => w.heap.size ≤ z) t v ∧ Below w.heap.size w w'
theorem mweak_fin {w W : World} {s : List UInt8} {t : Tm} {tp rp p : Option Addr} {tc rc c : Nat} {o : Bool} (hb : Below w.heap.size w W) (hN : TM' W (fun z => w.heap.size + 1 ≤ z) t tp tc rp rc p c) (ho : t.wt ≤ s.length) :
    MWeak s w (.returned (.tuple #[tmV t tp tc rp rc p c, .bool o])) (((((((((W.setCell ⟨w.heap.size, 0, none⟩ (.int .i64 t.kind)).setCell ⟨w.heap.size, 1, none⟩ (.string t.name)).setCell ⟨w.heap.size, 2, none⟩ (.string t.other)).setCell ⟨w.heap.size, 3, none⟩ (.int .i64 t.n)).setCell ⟨w.heap.size, 4, none⟩ (.int .i64 t.ty.kind)).setCell ⟨w.heap.size, 5, none⟩ (.slice tp t.ty.args.length tc)).setCell ⟨w.heap.size, 6, none⟩ (.int .i64 t.res.kind)).setCell ⟨w.heap.size, 7, none⟩ (.slice rp t.res.args.length rc)).setCell ⟨w.heap.size, 8, none⟩ (.slice p t.args.length c)) := by
  have hbl := set9_below W w.heap.size w.heap.size (.int .i64 t.kind) (.string t.name) (.string t.other) (.int .i64 t.n) (.int .i64 t.ty.kind) (.slice tp t.ty.args.length tc) (.int .i64 t.res.kind) (.slice rp t.res.args.length rc) (.slice p t.args.length c) (Nat.le_refl _)
  have hst := set9_stays W w.heap.size (.int .i64 t.kind) (.string t.name) (.string t.other) (.int .i64 t.n) (.int .i64 t.ty.kind) (.slice tp t.ty.args.length tc) (.int .i64 t.res.kind) (.slice rp t.res.args.length rc) (.slice p t.args.length c) (fun z => w.heap.size + 1 ≤ z) (fun h => by omega)
  exact ⟨t, o, _, rfl, ho, ⟨tp, tc, rp, rc, p, c, rfl, (hN.stays hst).mono (fun z hz _ => by omega)⟩, hb.trans hbl⟩
set_option maxRecDepth 100000 in
set_option maxHeartbeats 2000000 in
theorem parseTermSw_any (s : ByteArray) (hs : s.size ≤ 1048576) (hT : ∀ R, TermIs (pTm s.data.toList 20) R s 1) (w : World) : Calls Tryz.prog 141 #[.string s] w (MWeak s.data.toList w) := by
  obtain ⟨w0, hw0, hs0, hb0, r0⟩ := box_new w zeroC 29
  obtain ⟨w1, hw1, hs1, hb1, r1⟩ := box_new w0 #[.string s, .int .i64 0, .bool false] 207
  have hrd : RdO w1 w0.heap.size s (some 0) := ⟨Nat.zero_le _, r1⟩
  have HC := Lib.hid (hT _ (some 0) w1 hrd)
  have HW := Lib.hid (And.intro hs0 (And.intro hb0 (And.intro r0 (And.intro hs1 hb1))))
  have HWW := Lib.hid hw1
  clear hs0 hb0 r0 hs1 hb1 r1 hw1 hrd hT
  go_enter Tryz.func141, Tryz.ntmps141
  go_wp2_with fail
  rw [HWW.out]
  refine HC.out.mono ?_
  rintro e w2 ⟨v2, t, o2, rfl, ⟨tp, tc, rp, rc, p, c, rfl, hN2⟩, ho2, hr2, hg2⟩
  obtain ⟨hs0, hb0, r0, hs1, hb1⟩ := HW.out
  have hz2 := hg2.size
  obtain ⟨w3, hw3, hs3, hb3, r3⟩ := box_new w2 (tmC t tp tc rp rc p c) 29
  have hb02 : Below w.heap.size w w2 := ((hb0.trans (hb1.mono (by omega)))).trans ⟨hg2.os, hg2.tape, hg2.output, hg2.size, fun z hz => hg2.block z (by omega) (fun e => by have := Option.some.inj e; omega)⟩
  have hb03 := hb02.trans (hb3.mono hb02.size)
  have ho3 := (hb3.block w.heap.size (by omega)).trans ((hg2.block w.heap.size (by omega) (fun e => by have := Option.some.inj e; omega)).trans ((hb1.block _ (by omega)).trans r0))
  have hr3 := hr2.below hb3
  obtain ⟨i, hi, hri⟩ := hr3.cells
  obtain ⟨d0, d1, d2, _, _⟩ := hri.cells
  have HB3 := Lib.hid hb03
  have HN3 := Lib.hid ((hN2.stays (.of_below hb3)).mono (C' := fun z => w.heap.size + 1 ≤ z) (fun z hz _ => by have : w1.heap.size ≤ z := hz; omega))
  have HO := Lib.hid ho2
  have R3 := Lib.hid r3
  have O3 := Lib.hid ho3
  have q0 := cell_of_blk ho3 0
  have q1 := cell_of_blk ho3 1
  have q2 := cell_of_blk ho3 2
  have q3 := cell_of_blk ho3 3
  have q4 := cell_of_blk ho3 4
  have q5 := cell_of_blk ho3 5
  have q6 := cell_of_blk ho3 6
  have q7 := cell_of_blk ho3 7
  have q8 := cell_of_blk ho3 8
  have qz := unfrozen_of_blk ho3
  simp only [List.getElem?_toArray, List.getElem?_cons_zero, List.getElem?_cons_succ] at q0 q1 q2 q3 q4 q5 q6 q7 q8
  have HI := Lib.hid hi
  have HR3 := Lib.hid hr3
  clear hs0 hb0 r0 hs1 hb1 hz2 hs3 hb3 r3 hb02 hb03 ho3 hr3 hri hN2 ho2 hr2 hg2 hw0 hi
  cases o2 with
  | none =>
    go_wp2_with fail
    refine bodyPost_ret (v := .tuple #[tmV zeroM none 0 none 0 none 0, .bool false]) ?_ rfl ?_
    · rw [results_cs rfl]
      clear d0 d1 d2
      go_simp
      all_goals (repeat' apply And.intro) <;> rfl
    · exact mweak_fin (t := zeroM) HB3.out ⟨.nil _ _, .nil _ _, .nil _ _ _ _⟩ (Nat.zero_le _)
  | some j =>
    obtain ⟨hj, hrj⟩ := HR3.out
    have hij : i = j := by
      have := hrj.cells.2.1
      rw [d1] at this
      have := Option.some.inj this
      injection this with _ h3
      omega
    subst hij
    have hp : pTm s.data.toList 20 0 = some (t, i) := by
      rcases HO.out with ⟨j, h, hj⟩ | ⟨_, h⟩
      · obtain rfl := Option.some.inj hj; exact h
      · cases h
    have hwt := pTm_wt _ _ _ _ _ hp
    have HWT := Lib.hid hwt
    clear hj hrj hp
    by_cases hend : i = s.size
    · have HE := Lib.hid hend
      have hie : (i : Int) = (s.size : Int) := by omega
      have hv : ∃ x : List UInt8, (t.Valid ∧ x = t.text) ∨ (¬ t.Valid ∧ x = []) := by
        by_cases h : t.Valid
        · exact ⟨_, Or.inl ⟨h, rfl⟩⟩
        · exact ⟨_, Or.inr ⟨h, rfl⟩⟩
      obtain ⟨x, hx⟩ := hv
      have HX := Lib.hid hx
      have HF := Lib.hid (fmtTermS_any (⟨tp, tc, rp, rc, p, c, rfl, HN3.out⟩ : TM w3 _ t (tmV t tp tc rp rc p c)) (by omega) x hx)
      obtain ⟨g0, g1, g2, g3, g4, g5, g6, g7, g8⟩ := Bx9.of R3.out
      clear hx hend hwt
      by_cases h2 : x = s.data.toList
      · have e2 : (x == s.toList) = true := by rw [ByteArray.toList_eq, ← h2]; simp
        have HPM := Lib.hid (show t.wt ≤ s.data.toList.length by have h4 : s.data.toList.length = s.size := Array.length_toList; have h5 := HWT.out; have h6 := HE.out; omega)
        clear h2
        go_wp2_with fail
        refine HF.out.mono ?_
        rintro e w4 ⟨rfl, hb4⟩
        have HB4 := Lib.hid (HB3.out.trans (hb4.mono HB3.out.size))
        have HN4 := Lib.hid (HN3.out.stays (.of_below hb4))
        have hr4 := (hb4.block _ (Array.getElem?_eq_some_iff.1 R3.out).1).trans R3.out
        have ho4 := (hb4.block _ (Array.getElem?_eq_some_iff.1 O3.out).1).trans O3.out
        clear g0 g1 g2 g3 g4 g5 g6 g7 g8 q0 q1 q2 q3 q4 q5 q6 q7 q8 qz d0 d1 d2
        obtain ⟨g0, g1, g2, g3, g4, g5, g6, g7, g8⟩ := Bx9.of hr4
        have q0 := cell_of_blk ho4 0
        have q1 := cell_of_blk ho4 1
        have q2 := cell_of_blk ho4 2
        have q3 := cell_of_blk ho4 3
        have q4 := cell_of_blk ho4 4
        have q5 := cell_of_blk ho4 5
        have q6 := cell_of_blk ho4 6
        have q7 := cell_of_blk ho4 7
        have q8 := cell_of_blk ho4 8
        have qz := unfrozen_of_blk ho4
        simp only [List.getElem?_toArray, List.getElem?_cons_zero, List.getElem?_cons_succ] at q0 q1 q2 q3 q4 q5 q6 q7 q8
        clear hb4 hr4 ho4
        go_wp2_with fail
        refine bodyPost_ret (v := .tuple #[tmV t tp tc rp rc p c, .bool true]) ?_ rfl ?_
        · rw [results_cs rfl]
          clear g0 g1 g2 g3 g4 g5 g6 g7 g8 e2 hie
          go_simp
          all_goals (first | rfl | ((repeat' apply And.intro) <;> rfl))
        · exact mweak_fin HB4.out HN4.out HPM.out
      · have e2 : (x == s.toList) = false := by rw [ByteArray.toList_eq]; simpa using h2
        clear h2
        go_wp2_with fail
        refine HF.out.mono ?_
        rintro e w4 ⟨rfl, hb4⟩
        have HB4 := Lib.hid (HB3.out.trans (hb4.mono HB3.out.size))
        have HN4 := Lib.hid (HN3.out.stays (.of_below hb4))
        have hr4 := (hb4.block _ (Array.getElem?_eq_some_iff.1 R3.out).1).trans R3.out
        have ho4 := (hb4.block _ (Array.getElem?_eq_some_iff.1 O3.out).1).trans O3.out
        clear g0 g1 g2 g3 g4 g5 g6 g7 g8 q0 q1 q2 q3 q4 q5 q6 q7 q8 qz d0 d1 d2
        obtain ⟨g0, g1, g2, g3, g4, g5, g6, g7, g8⟩ := Bx9.of hr4
        have q0 := cell_of_blk ho4 0
        have q1 := cell_of_blk ho4 1
        have q2 := cell_of_blk ho4 2
        have q3 := cell_of_blk ho4 3
        have q4 := cell_of_blk ho4 4
        have q5 := cell_of_blk ho4 5
        have q6 := cell_of_blk ho4 6
        have q7 := cell_of_blk ho4 7
        have q8 := cell_of_blk ho4 8
        have qz := unfrozen_of_blk ho4
        simp only [List.getElem?_toArray, List.getElem?_cons_zero, List.getElem?_cons_succ] at q0 q1 q2 q3 q4 q5 q6 q7 q8
        clear hb4 hr4 ho4
        go_wp2_with fail
        refine bodyPost_ret (v := .tuple #[tmV zeroM none 0 none 0 none 0, .bool false]) ?_ rfl ?_
        · rw [results_cs rfl]
          clear g0 g1 g2 g3 g4 g5 g6 g7 g8 e2 hie
          go_simp
          all_goals (repeat' apply And.intro) <;> rfl
        · exact mweak_fin (t := zeroM) HB4.out ⟨.nil _ _, .nil _ _, .nil _ _ _ _⟩ (Nat.zero_le _)
    · have hne : ¬ (i : Int) = (s.size : Int) := by omega
      clear hend hwt
      go_wp2_with fail
      refine bodyPost_ret (v := .tuple #[tmV zeroM none 0 none 0 none 0, .bool false]) ?_ rfl ?_
      · rw [results_cs rfl]
        clear d0 d1 d2 hne
        go_simp
        all_goals (repeat' apply And.intro) <;> rfl
      · exact mweak_fin (t := zeroM) HB3.out ⟨.nil _ _, .nil _ _, .nil _ _ _ _⟩ (Nat.zero_le _)
theorem parseTermSw_full (s : ByteArray) (hs : s.size ≤ 1048576) (w : World) : Calls Tryz.prog 141 #[.string s] w (MWeak s.data.toList w) :=
  parseTermSw_any s hs (fun R => l6term_any R s (by omega) 20 (Nat.le_refl _)) w
theorem bytes_len (s : ByteArray) : s.data.toList.length = s.size := Array.length_toList
def samples : List ByteArray := [⟨#[60, 40, 92, 120, 58, 73, 46, 126, 40, 40, 114, 101, 99, 32, 112, 32, 110, 58, 73, 62, 60, 73, 62, 46, 40, 105, 102, 32, 40, 110, 61, 48, 41, 32, 60, 49, 62, 32, 60, 40, 120, 42, 126, 40, 112, 32, 40, 110, 45, 49, 41, 41, 41, 62, 41, 41, 32, 51, 41, 41, 62]⟩, ⟨#[40, 40, 114, 117, 110, 32, 60, 40, 92, 120, 58, 73, 46, 126, 40, 40, 114, 101, 99, 32, 112, 32, 110, 58, 73, 62, 60, 73, 62, 46, 40, 105, 102, 32, 40, 110, 61, 48, 41, 32, 60, 49, 62, 32, 60, 40, 120, 42, 126, 40, 112, 32, 40, 110, 45, 49, 41, 41, 41, 62, 41, 41, 32, 51, 41, 41, 62, 41, 32, 50, 41]⟩, ⟨#[40, 108, 101, 116, 32, 99, 61, 60, 40, 49, 43, 50, 41, 62, 32, 60, 40, 126, 99, 42, 126, 99, 41, 62, 41]⟩, ⟨#[60, 40, 92, 121, 58, 73, 46, 126, 40, 40, 92, 122, 58, 60, 73, 62, 46, 60, 40, 92, 121, 58, 73, 46, 40, 126, 122, 43, 121, 41, 41, 62, 41, 32, 60, 121, 62, 41, 41, 62]⟩, ⟨#[40, 114, 117, 110, 32, 60, 40, 114, 117, 110, 32, 60, 53, 62, 41, 62, 41]⟩, ⟨#[40, 108, 101, 116, 32, 110, 61, 55, 32, 40, 114, 117, 110, 32, 60, 126, 40, 108, 105, 102, 116, 32, 40, 110, 42, 110, 41, 41, 62, 41, 41]⟩, ⟨#[40, 40, 114, 101, 99, 32, 102, 32, 120, 58, 73, 62, 73, 46, 40, 105, 102, 32, 40, 120, 60, 49, 41, 32, 48, 32, 40, 120, 43, 40, 102, 32, 40, 120, 45, 49, 41, 41, 41, 41, 41, 32, 52, 41]⟩, ⟨#[40, 40, 114, 101, 99, 32, 102, 32, 120, 58, 73, 62, 73, 46, 40, 102, 32, 120, 41, 41, 32, 49, 41]⟩, ⟨#[60, 60, 126, 40, 108, 105, 102, 116, 32, 51, 41, 62, 62]⟩, ⟨#[40, 114, 117, 110, 32, 60, 40, 92, 102, 58, 40, 73, 62, 73, 41, 46, 40, 102, 32, 50, 41, 41, 62, 41]⟩, ⟨#[60, 40, 108, 101, 116, 32, 103, 61, 40, 92, 120, 58, 73, 46, 120, 41, 32, 126, 40, 105, 102, 32, 35, 116, 32, 60, 40, 103, 32, 49, 41, 62, 32, 60, 50, 62, 41, 41, 62]⟩]
theorem samples_size : ∀ s ∈ samples, s.size ≤ 100 := by decide
set_option maxRecDepth 100000 in
set_option maxHeartbeats 4000000 in
theorem sample_any (b : Nat) (w : World) (hc : Cur w b) : Calls Tryz.prog 87 #[.pointer (some ⟨b, 0, none⟩)] w (GenT 100 b w) := by
  have hbw := hc.lt
  obtain ⟨wl, hwl, hsz, hbl, qr⟩ := box_new w zero9 29
  have HSL : Hid (Slot w b w.heap.size wl) := Lib.hid ⟨hc.below hbl, grown_below (grownB_refl w _) (Nat.le_refl _) hbl, qr, Nat.le_refl _, hbw⟩
  have hp3 := pickS_litG samples 11 b wl #[.string ⟨#[60, 40, 92, 120, 58, 73, 46, 126, 40, 40, 114, 101, 99, 32, 112, 32, 110, 58, 73, 62, 60, 73, 62, 46, 40, 105, 102, 32, 40, 110, 61, 48, 41, 32, 60, 49, 62, 32, 60, 40, 120, 42, 126, 40, 112, 32, 40, 110, 45, 49, 41, 41, 41, 62, 41, 41, 32, 51, 41, 41, 62]⟩, .string ⟨#[40, 40, 114, 117, 110, 32, 60, 40, 92, 120, 58, 73, 46, 126, 40, 40, 114, 101, 99, 32, 112, 32, 110, 58, 73, 62, 60, 73, 62, 46, 40, 105, 102, 32, 40, 110, 61, 48, 41, 32, 60, 49, 62, 32, 60, 40, 120, 42, 126, 40, 112, 32, 40, 110, 45, 49, 41, 41, 41, 62, 41, 41, 32, 51, 41, 41, 62, 41, 32, 50, 41]⟩, .string ⟨#[40, 108, 101, 116, 32, 99, 61, 60, 40, 49, 43, 50, 41, 62, 32, 60, 40, 126, 99, 42, 126, 99, 41, 62, 41]⟩, .string ⟨#[60, 40, 92, 121, 58, 73, 46, 126, 40, 40, 92, 122, 58, 60, 73, 62, 46, 60, 40, 92, 121, 58, 73, 46, 40, 126, 122, 43, 121, 41, 41, 62, 41, 32, 60, 121, 62, 41, 41, 62]⟩, .string ⟨#[40, 114, 117, 110, 32, 60, 40, 114, 117, 110, 32, 60, 53, 62, 41, 62, 41]⟩, .string ⟨#[40, 108, 101, 116, 32, 110, 61, 55, 32, 40, 114, 117, 110, 32, 60, 126, 40, 108, 105, 102, 116, 32, 40, 110, 42, 110, 41, 41, 62, 41, 41]⟩, .string ⟨#[40, 40, 114, 101, 99, 32, 102, 32, 120, 58, 73, 62, 73, 46, 40, 105, 102, 32, 40, 120, 60, 49, 41, 32, 48, 32, 40, 120, 43, 40, 102, 32, 40, 120, 45, 49, 41, 41, 41, 41, 41, 32, 52, 41]⟩, .string ⟨#[40, 40, 114, 101, 99, 32, 102, 32, 120, 58, 73, 62, 73, 46, 40, 102, 32, 120, 41, 41, 32, 49, 41]⟩, .string ⟨#[60, 60, 126, 40, 108, 105, 102, 116, 32, 51, 41, 62, 62]⟩, .string ⟨#[40, 114, 117, 110, 32, 60, 40, 92, 102, 58, 40, 73, 62, 73, 41, 46, 40, 102, 32, 50, 41, 41, 62, 41]⟩, .string ⟨#[60, 40, 108, 101, 116, 32, 103, 61, 40, 92, 120, 58, 73, 46, 120, 41, 32, 126, 40, 105, 102, 32, 35, 116, 32, 60, 40, 103, 32, 49, 41, 62, 32, 60, 50, 62, 41, 41, 62]⟩] rfl (by decide) (by decide) rfl HSL.out.cur
  rw [hsz] at hp3
  have HP3 := Lib.hid hp3
  have HWL := Lib.hid hwl
  have HSZ := Lib.hid hsz
  clear hwl hsz hbl qr hc hp3
  go_enter Tryz.func87, Tryz.ntmps87
  go_wp2_with fail
  rw [show w.alloc (.cells zero9 29) = wl from HWL.out]
  refine HP3.out.mono ?_
  rintro e w3 ⟨nm, hnm, rfl, hc3, hg3⟩
  have HNM := Lib.hid (samples_size nm hnm)
  have HS3 := Lib.hid (HSL.out.step hc3 hg3)
  clear hnm hc3 hg3
  go_wp2_with fail
  refine (parseTermSw_full nm (by have := HNM.out; omega) w3).mono ?_
  rintro e w4 ⟨x, o, v, rfl, hP, ⟨tp1, tc1, rp1, rc1, p1, c1, rfl, ht⟩, hb⟩
  have HX1 : Hid (x.wt ≤ 100) := Lib.hid (by have h1 := hP; have h2 := HNM.out; have h3 := bytes_len nm; omega)
  have hal := al_below w4 (.cells (tmC x tp1 tc1 rp1 rc1 p1 c1) 29)
  have HS4 := Lib.hid ((HS3.out.below hb).below hal)
  have HT1 := Lib.hid (ht.stays (.of_below hal))
  have HXB := Lib.hid (Bx9.new w4 x tp1 tc1 rp1 rc1 p1 c1 29)
  obtain ⟨g0, g1, g2, g3, g4, g5, g6, g7, g8⟩ := HXB.out
  obtain ⟨⟨r0, r1, r2, r3, r4, r5, r6, r7, r8⟩, rz⟩ := zero9_facts HS4.out.box
  clear hP ht hb hal
  go_wp2_with fail
  refine bodyPost_ret (v := tmV x tp1 tc1 rp1 rc1 p1 c1) ?_ rfl ?_
  · rw [results_cell1 rfl]
    go_simp
    all_goals (repeat' apply And.intro) <;> rfl
  · refine HS4.out.fin9 HX1.out (HT1.out.mono (fun z hz _ => ?_))
    have h1 := HS3.out.lt
    have hz' : w3.heap.size ≤ z := hz
    exact ⟨by omega, by omega⟩
end Go.Proofs.YtfeijijeohfpgaaGreatDoor
