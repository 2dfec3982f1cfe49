/-
  Several texts of the proof in one (each says below what it holds): TxS RdQ Cf.
-/
import Derived.Test.YtjobmgbchpoheaaGreatDoorPB22
import Derived.Test.YtjobmgbchpoheaaGreatDoorPB40
import Derived.Test.YtjobmgbchpoheaaGreatDoorPB26
import Derived.Test.YtjobmgbchpoheaaGreatDoorPB30
import Derived.Test.YtjobmgbchpoheaaGreatDoorPB7
namespace Go.Proofs.YtjobmgbchpoheaaGreatDoor
open Go Go.RowKit

theorem cat_t1 (x : List UInt8) : (⟨#[40, 33]⟩ : ByteArray) ++ ⟨x.toArray⟩ ++ (⟨#[41]⟩ : ByteArray) = ⟨(40 :: 33 :: (x ++ [41])).toArray⟩ := by
  apply ByteArray.ext
  simp
theorem cat_t2 (a : ByteArray) (x y : List UInt8) : (⟨#[40]⟩ : ByteArray) ++ ⟨x.toArray⟩ ++ a ++ ⟨y.toArray⟩ ++ (⟨#[41]⟩ : ByteArray) = ⟨(40 :: (x ++ (a.data.toList ++ (y ++ [41])))).toArray⟩ := by
  apply ByteArray.ext
  simp
theorem cat_t10 (x : List UInt8) : (⟨#[60]⟩ : ByteArray) ++ ⟨x.toArray⟩ ++ (⟨#[62]⟩ : ByteArray) = ⟨(60 :: (x ++ [62])).toArray⟩ := by
  apply ByteArray.ext
  simp
theorem cat_t11 (x : List UInt8) : (⟨#[126]⟩ : ByteArray) ++ ⟨x.toArray⟩ = ⟨(126 :: x).toArray⟩ := by
  apply ByteArray.ext
  simp
def tbs (ts : List Tm) : List ByteArray := ts.map fun t => tb t.text
theorem tbs_len (ts : List Tm) : (tbs ts).length = ts.length := by simp [tbs]
theorem tbs_take (ts : List Tm) (k : Nat) (h : k < ts.length) : tbs (ts.take (k + 1)) = tbs (ts.take k) ++ [tb ts[k].text] := by
  unfold tbs
  rw [tm_take_next h, List.map_append]; rfl
theorem IsTS.at {ts : List Tm} (h : IsTS ts) (k : Nat) (hk : k < ts.length) : ts[k].IsT := by
  induction ts generalizing k with
  | nil => simp at hk
  | cons t ts ih =>
    cases k with
    | zero => exact h.1
    | succ k => exact ih h.2 k (by simpa using hk)

set_option maxRecDepth 100000 in
set_option maxHeartbeats 8000000 in
theorem txS_any {C : Nat → Prop} : ∀ (m : Nat) {t : Tm} {tp : Option Addr} {tc : Nat} {rp : Option Addr} {rc : Nat} {p : Option Addr} {c : Nat} (w : World), t.nodes ≤ m → TM' w C t tp tc rp rc p c → t.wt ≤ 2097152 → t.IsT → Calls Tryz.prog 25 #[tmV t tp tc rp rc p c] w (StrRet t.text w)
  | 0, t, tp, tc, rp, rc, p, c, w, hm, hT, hn, hI => by rw [t.nodes_eq] at hm; omega
  | m + 1, t, tp, tc, rp, rc, p, c, w, hm, hT, hn, hI => by
    have HT := Lib.hid hT
    have HX0 := Lib.hid (Bx9.new w t tp tc rp rc p c 29)
    have HB0 := Lib.hid (al_below w (.cells (tmC t tp tc rp rc p c) 29))
    have SH := Lib.hid (shape hI)
    have hne := t.nodes_eq
    have hwe := t.wt_eq
    have hlen := wtS_ge t.args
    have HM := Lib.hid hm
    have HNE := Lib.hid hne
    have HIS := Lib.hid ((Tm.IsT_eq t).1 hI).1
    have HL := Lib.hid (textM_le t hI)
    have hwa : wtS t.args ≤ 2097152 := by omega
    have hna : t.name.size ≤ 2097152 := by omega
    have hno : t.other.size ≤ 2097152 := by omega
    clear hT hne hwe hm hI
    go_enter Tryz.func25, Tryz.ntmps25
    go_wp2_with fail
    go_loopw [3, 4] (fun v i wr => ∃ (k : Nat), k ≤ t.args.length ∧ i = .int .i64 k ∧ Own wr (w.heap.size + 1) v (tbs (t.args.take k)) ∧ Bx9 wr w.heap.size t tp tc rp rc p c ∧ Below w.heap.size w wr) (fun _ i _ => t.args.length - (intOf i).toNat)
    case atStart =>
      refine ⟨0, Nat.zero_le _, rfl, ?_, ?_, ?_⟩
      · have := own_empty (w.alloc (.cells (tmC t tp tc rp rc p c) 29))
        rw [World.size_alloc] at this
        exact this
      · exact HX0.out.keep (al_below _ _)
      · exact HB0.out.trans ((al_below _ _).mono (by simp))
    case round =>
      obtain ⟨k, hk, rfl, hown, hbx, hbr⟩ := hrel
      have HO := Lib.hid hown
      have HBX := Lib.hid hbx
      have HB := Lib.hid hbr
      have hsz := hbr.size
      obtain ⟨d0, d1, d2, d3, d4, d5, d6, d7, d8⟩ := hbx
      clear hown hbr
      by_cases hlk : k < t.args.length
      · obtain ⟨b, o, tp2, tc2, rp2, rc2, p2, c2, rfl, hC, hb, h9, hP⟩ := tm_part HT.out.args k hlk
        obtain ⟨g0, g1, g2, g3, g4, g5, g6, g7, g8⟩ := h9 wr (.of_below HB.out)
        have n4 := nodesM_at t.args k hlk
        have n5 := wtS_at t.args k hlk
        have hmk : t.args[k].nodes ≤ m := by have := HM.out; have := HNE.out; omega
        have hi0 : (0 : Int) ≤ (k : Int) := Int.natCast_nonneg _
        have hi1 : (k : Int) < (t.args.length : Int) := by omega
        have HC := Lib.hid (fun (W : World) (hW : Below wr.heap.size wr W) => txS_any m W hmk (hP.stays (.of_below (HB.out.trans (hW.mono HB.out.size)))) (by omega) (HIS.out.at k hlk))
        have htk : (t.args.take k).length ≤ 2097152 := by rw [List.length_take]; omega
        have HTK := Lib.hid (tbs_take t.args k hlk)
        clear hC hb h9 hP n4 n5 hmk
        go_wp2_with fail
        refine (HC.out _ (Below.refl _ _)).mono ?_
        rintro e w1 ⟨rfl, hb1⟩
        have HO1 := Lib.hid (HO.out.below hb1)
        have HX1 := Lib.hid (HBX.out.keep hb1)
        have HB1 := Lib.hid (HB.out.trans (hb1.mono HB.out.size))
        have hz1 := hb1.size
        have hlk2 : (tbs (t.args.take k)).length ≤ 8388608 := by rw [tbs_len]; omega
        have hz2 : w.heap.size + 1 ≤ w1.heap.size := by have := HBX.out.lt; omega
        clear hb1 d0 d1 d2 d3 d4 d5 d6 d7 d8 g0 g1 g2 g3 g4 g5 g6 g7 g8
        go_wp2_with (at_builtin; refine wpList_app_str rfl _ _ rfl (w.heap.size + 1) _ _ rfl HO1.out _ rfl hlk2 hz2 ?_; intro v' w2 hown2 hb2)
        have HO2 := Lib.hid hown2
        have HX2 := Lib.hid (HX1.out.at (hb2.block _ (by omega)))
        have HB2 := Lib.hid (HB1.out.trans (hb2.mono (by omega)))
        clear hown2 hb2
        go_wp2_with fail
        go_roundw
        case rel => exact ⟨k + 1, by omega, by go_num, by rw [HTK.out]; exact HO2.out, HX2.out, HB2.out⟩
        case measure => simp [intOf]; omega
      · obtain rfl : k = t.args.length := by omega
        rw [List.take_length] at HO
        clear hlk hk hlen
        obtain ⟨kk, a, o, n, ty, res, ts⟩ := t
        have sh := SH.out
        have hS : SS wr _ (tbs ts) := HO.out.ss
        simp only [Tm.name, Tm.other] at hna hno
        clear SH HM HNE HIS HBX HX0
        cases sh with
        | var a h =>
          simp only [Tm.kind, Tm.name, Tm.other, Tm.n, Tm.ty, Tm.res, Tm.args, Ty.kind_mk, Ty.args_mk, List.length_nil] at d0 d1 d2 d3 d4 d5 d6 d7 d8
          go_wp2_with fail
          go_ret
          exact ⟨by rw [t_var]; rfl, HB.out⟩
        | int n h0 h1 =>
          simp only [Tm.kind, Tm.name, Tm.other, Tm.n, Tm.ty, Tm.res, Tm.args, Ty.kind_mk, Ty.args_mk, List.length_nil] at d0 d1 d2 d3 d4 d5 d6 d7 d8
          go_wp2_with fail
          refine (fmt_any n (by omega) (by omega) wr).mono ?_
          rintro e w2 ⟨rfl, hb2⟩
          have HB2 := Lib.hid (HB.out.trans (hb2.mono HB.out.size))
          clear hb2
          go_wp2_with fail
          go_ret
          exact ⟨by rw [t_int]; rfl, HB2.out⟩
        | bool n h =>
          rcases h with rfl | rfl
          all_goals
            simp only [Tm.kind, Tm.name, Tm.other, Tm.n, Tm.ty, Tm.res, Tm.args, Ty.kind_mk, Ty.args_mk, List.length_nil] at d0 d1 d2 d3 d4 d5 d6 d7 d8
            go_wp2_with fail
            go_ret
            exact ⟨by rw [t_bool]; rfl, HB.out⟩
        | op1 a ha x hx =>
          simp only [Tm.kind, Tm.name, Tm.other, Tm.n, Tm.ty, Tm.res, Tm.args, Ty.kind_mk, Ty.args_mk, List.length_nil, List.length_cons, Nat.zero_add] at d0 d1 d2 d3 d4 d5 d6 d7 d8
          obtain ⟨bb, ii, dd, rfl, hbb, hcc⟩ := SS.one hS
          have hl := HL.out
          rw [t_op1] at hl
          simp only [List.length_cons, List.length_append, List.length_nil] at hl
          have q1 : ¬ 9223372036854775807 < 2 + x.text.length := by omega
          have q2 : ¬ 9223372036854775807 < 2 + x.text.length + 1 := by omega
          clear hl
          go_wp2_with fail
          go_ret
          exact ⟨by rw [t_op1, ← cat_t1]; rfl, HB.out⟩
        | op2 a ch ha hc x y hx hy =>
          simp only [Tm.kind, Tm.name, Tm.other, Tm.n, Tm.ty, Tm.res, Tm.args, Ty.kind_mk, Ty.args_mk, List.length_nil, List.length_cons, Nat.zero_add, Nat.reduceAdd] at d0 d1 d2 d3 d4 d5 d6 d7 d8
          obtain ⟨bb, ii, dd, rfl, hbb, hcc, hc2⟩ := SS.two hS
          have had : a.size = 1 := by
            have := congrArg List.length ha
            rw [ByteArray.toList_eq] at this
            simpa using this
          have hl := HL.out
          rw [t_op2] at hl
          simp only [List.length_cons, List.length_append, List.length_nil] at hl
          have q1 : ¬ 9223372036854775807 < 1 + x.text.length := by omega
          have q2 : ¬ 9223372036854775807 < 1 + x.text.length + a.size := by omega
          have q3 : ¬ 9223372036854775807 < 1 + x.text.length + a.size + y.text.length := by omega
          have q4 : ¬ 9223372036854775807 < 1 + x.text.length + a.size + y.text.length + 1 := by omega
          clear hl had
          go_wp2_with fail
          go_region
          go_wp2_with fail
          go_ret
          exact ⟨by rw [t_op2, ← cat_t2]; rfl, HB.out.drew⟩
        | quote x hx =>
          simp only [Tm.kind, Tm.name, Tm.other, Tm.n, Tm.ty, Tm.res, Tm.args, Ty.kind_mk, Ty.args_mk, List.length_nil, List.length_cons, Nat.zero_add] at d0 d1 d2 d3 d4 d5 d6 d7 d8
          obtain ⟨bb, ii, dd, rfl, hbb, hcc⟩ := SS.one hS
          have hl := HL.out
          rw [t_quote] at hl
          simp only [List.length_cons, List.length_append, List.length_nil] at hl
          have q1 : ¬ 9223372036854775807 < 1 + x.text.length := by omega
          have q2 : ¬ 9223372036854775807 < 1 + x.text.length + 1 := by omega
          clear hl
          go_wp2_with fail
          go_ret
          exact ⟨by rw [t_quote, ← cat_t10]; rfl, HB.out⟩
        | splice x hx =>
          simp only [Tm.kind, Tm.name, Tm.other, Tm.n, Tm.ty, Tm.res, Tm.args, Ty.kind_mk, Ty.args_mk, List.length_nil, List.length_cons, Nat.zero_add] at d0 d1 d2 d3 d4 d5 d6 d7 d8
          obtain ⟨bb, ii, dd, rfl, hbb, hcc⟩ := SS.one hS
          have hl := HL.out
          rw [t_splice] at hl
          simp only [List.length_cons] at hl
          have q1 : ¬ 9223372036854775807 < 1 + x.text.length := by omega
          clear hl
          go_wp2_with fail
          go_ret
          exact ⟨by rw [t_splice, ← cat_t11]; rfl, HB.out⟩
        | run x hx =>
          simp only [Tm.kind, Tm.name, Tm.other, Tm.n, Tm.ty, Tm.res, Tm.args, Ty.kind_mk, Ty.args_mk, List.length_nil, List.length_cons, Nat.zero_add] at d0 d1 d2 d3 d4 d5 d6 d7 d8
          have hl := HL.out
          rw [t_run] at hl
          simp only [List.length_cons, List.length_append, List.length_nil] at hl
          have HC := Lib.hid (long_run x.text tp tc rp rc p c _ wr hS (by omega))
          clear hl
          go_wp2_with fail
          refine HC.out.mono ?_
          rintro e w2 ⟨rfl, hb2⟩
          have HB2 := Lib.hid (HB.out.trans (hb2.mono HB.out.size))
          clear hb2
          go_wp2_with fail
          go_ret
          exact ⟨by rw [t_run]; rfl, HB2.out⟩
        | lift x hx =>
          simp only [Tm.kind, Tm.name, Tm.other, Tm.n, Tm.ty, Tm.res, Tm.args, Ty.kind_mk, Ty.args_mk, List.length_nil, List.length_cons, Nat.zero_add] at d0 d1 d2 d3 d4 d5 d6 d7 d8
          have hl := HL.out
          rw [t_lift] at hl
          simp only [List.length_cons, List.length_append, List.length_nil] at hl
          have HC := Lib.hid (long_lift x.text tp tc rp rc p c _ wr hS (by omega))
          clear hl
          go_wp2_with fail
          refine HC.out.mono ?_
          rintro e w2 ⟨rfl, hb2⟩
          have HB2 := Lib.hid (HB.out.trans (hb2.mono HB.out.size))
          clear hb2
          go_wp2_with fail
          go_ret
          exact ⟨by rw [t_lift]; rfl, HB2.out⟩
        | cond x y z hx hy hz =>
          simp only [Tm.kind, Tm.name, Tm.other, Tm.n, Tm.ty, Tm.res, Tm.args, Ty.kind_mk, Ty.args_mk, List.length_nil, List.length_cons, Nat.zero_add, Nat.reduceAdd] at d0 d1 d2 d3 d4 d5 d6 d7 d8
          have hl := HL.out
          rw [t_cond] at hl
          simp only [List.length_cons, List.length_append, List.length_nil] at hl
          have HC := Lib.hid (long_cond x.text y.text z.text _ tp tc rp rc p c _ wr hS rfl (by simp only [List.length_append, List.length_cons]; omega))
          clear hl
          go_wp2_with fail
          refine HC.out.mono ?_
          rintro e w2 ⟨rfl, hb2⟩
          have HB2 := Lib.hid (HB.out.trans (hb2.mono HB.out.size))
          clear hb2
          go_wp2_with fail
          go_ret
          exact ⟨by rw [t_cond]; simp, HB2.out⟩
        | app x y hx hy =>
          simp only [Tm.kind, Tm.name, Tm.other, Tm.n, Tm.ty, Tm.res, Tm.args, Ty.kind_mk, Ty.args_mk, List.length_nil, List.length_cons, Nat.zero_add, Nat.reduceAdd] at d0 d1 d2 d3 d4 d5 d6 d7 d8
          have hl := HL.out
          rw [t_app] at hl
          simp only [List.length_cons, List.length_append, List.length_nil] at hl
          have HC := Lib.hid (long_app x.text y.text _ tp tc rp rc p c _ wr hS rfl (by simp only [List.length_append, List.length_cons]; omega))
          clear hl
          go_wp2_with fail
          refine HC.out.mono ?_
          rintro e w2 ⟨rfl, hb2⟩
          have HB2 := Lib.hid (HB.out.trans (hb2.mono HB.out.size))
          clear hb2
          go_wp2_with fail
          go_ret
          exact ⟨by rw [t_app]; simp, HB2.out⟩
        | bind a h x y hx hy =>
          simp only [Tm.kind, Tm.name, Tm.other, Tm.n, Tm.ty, Tm.res, Tm.args, Ty.kind_mk, Ty.args_mk, List.length_nil, List.length_cons, Nat.zero_add, Nat.reduceAdd] at d0 d1 d2 d3 d4 d5 d6 d7 d8
          have hl := HL.out
          rw [t_bind] at hl
          simp only [List.length_cons, List.length_append, List.length_nil] at hl
          have HC := Lib.hid (long_bind a x.text y.text _ tp tc rp rc p c _ wr hS rfl (by simp only [List.length_append, List.length_cons]; omega) hna)
          clear hl
          go_wp2_with fail
          refine HC.out.mono ?_
          rintro e w2 ⟨rfl, hb2⟩
          have HB2 := Lib.hid (HB.out.trans (hb2.mono HB.out.size))
          clear hb2
          go_wp2_with fail
          go_ret
          exact ⟨by rw [t_bind]; simp, HB2.out⟩
        | lam a h ty hv x hx =>
          simp only [Tm.kind, Tm.name, Tm.other, Tm.n, Tm.ty, Tm.res, Tm.args, Ty.kind_mk, Ty.args_mk, List.length_nil, List.length_cons, Nat.zero_add] at d0 d1 d2 d3 d4 d5 d6 d7 d8
          have hl := HL.out
          rw [t_lam] at hl
          simp only [List.length_cons, List.length_append, List.length_nil] at hl
          have HC := Lib.hid (long_lam a ty x.text tp tc rp rc p c _ wr hS hv (HT.out.ty.keep HB.out) (by omega) hna)
          clear hl
          go_wp2_with fail
          refine HC.out.mono ?_
          rintro e w2 ⟨rfl, hb2⟩
          have HB2 := Lib.hid (HB.out.trans (hb2.mono HB.out.size))
          clear hb2
          go_wp2_with fail
          go_ret
          exact ⟨by rw [t_lam]; rfl, HB2.out⟩
        | fix a o ha hb hab ty res hv hv2 x hx =>
          simp only [Tm.kind, Tm.name, Tm.other, Tm.n, Tm.ty, Tm.res, Tm.args, List.length_nil, List.length_cons, Nat.zero_add] at d0 d1 d2 d3 d4 d5 d6 d7 d8
          have hl := HL.out
          rw [t_fix] at hl
          simp only [List.length_cons, List.length_append, List.length_nil] at hl
          have HC := Lib.hid (long_fix a o ty res x.text tp tc rp rc p c _ wr hS hv hv2 (HT.out.ty.keep HB.out) (HT.out.res.keep HB.out) (by omega) hna hno)
          clear hl
          go_wp2_with fail
          refine HC.out.mono ?_
          rintro e w2 ⟨rfl, hb2⟩
          have HB2 := Lib.hid (HB.out.trans (hb2.mono HB.out.size))
          clear hb2
          go_wp2_with fail
          go_ret
          exact ⟨by rw [t_fix]; rfl, HB2.out⟩

set_option maxRecDepth 100000 in
set_option maxHeartbeats 1000000 in
theorem termTextS_any {C : Nat → Prop} {t : Tm} {v : Value} {w : World} (h : TM w C t v) (hn : t.wt ≤ 2097152) (x : List UInt8) (hx : (t.IsT ∧ x = t.text) ∨ (¬ t.IsT ∧ x = [])) :
    Calls Tryz.prog 16 #[v] w (StrRet x w) := by
  obtain ⟨tp, tc, rp, rc, p, c, rfl, hT⟩ := h
  have HT := Lib.hid hT
  have HX := Lib.hid (Bx9.new w t tp tc rp rc p c 29)
  have HB := Lib.hid (al_below w (.cells (tmC t tp tc rp rc p c) 29))
  have HXX := Lib.hid hx
  clear hT hx
  go_enter Tryz.func16, Tryz.ntmps16
  go_wp2_with fail
  refine (isTM_any _ _ (Nat.le_refl _) (HT.out.stays (.of_below HB.out)) hn).mono ?_
  rintro e w1 ⟨r, hr, rfl, hb1⟩
  have HB1 := Lib.hid (HB.out.trans (hb1.mono HB.out.size))
  obtain ⟨g0, g1, g2, g3, g4, g5, g6, g7, g8⟩ := HX.out.keep hb1
  clear hb1
  rcases HXX.out with ⟨hi, rfl⟩ | ⟨hi, rfl⟩
  · obtain rfl : r = true := hr.2 hi
    have HC := Lib.hid (txS_any _ w1 (Nat.le_refl _) (HT.out.stays (.of_below HB1.out)) hn hi)
    clear hr
    go_wp2_with fail
    refine HC.out.mono ?_
    rintro e w2 ⟨rfl, hb2⟩
    have HB2 := Lib.hid (HB1.out.trans (hb2.mono HB1.out.size))
    clear hb2
    go_wp2_with fail
    go_ret
    exact ⟨rfl, HB2.out⟩
  · obtain rfl : r = false := by
      cases r with
      | false => rfl
      | true => exact absurd (hr.1 rfl) hi
    clear hr
    go_wp2_with fail
    go_ret
    exact ⟨rfl, HB1.out⟩
set_option maxRecDepth 100000 in
set_option maxHeartbeats 1000000 in
theorem fmtTermS_any {C : Nat → Prop} {t : Tm} {v : Value} {w : World} (h : TM w C t v) (hn : t.wt ≤ 2097152) (x : List UInt8) (hx : (t.Valid ∧ x = t.text) ∨ (¬ t.Valid ∧ x = [])) :
    Calls Tryz.prog 9 #[v] w (StrRet x w) := by
  have HV := Lib.hid (fun w' (hb : Below w.heap.size w w') => h.keep hb)
  obtain ⟨tp, tc, rp, rc, p, c, rfl, hT⟩ := h
  have HT := Lib.hid hT
  have HX := Lib.hid (Bx9.new w t tp tc rp rc p c 29)
  have HB := Lib.hid (al_below w (.cells (tmC t tp tc rp rc p c) 29))
  have HXX := Lib.hid hx
  clear hT hx
  go_enter Tryz.func9, Tryz.ntmps9
  go_wp2_with fail
  refine (validM_any (HV.out _ HB.out) hn).mono ?_
  rintro e w1 ⟨r, hr, rfl, hb1⟩
  have HB1 := Lib.hid (HB.out.trans (hb1.mono HB.out.size))
  obtain ⟨g0, g1, g2, g3, g4, g5, g6, g7, g8⟩ := HX.out.keep hb1
  clear hb1
  rcases HXX.out with ⟨hi, rfl⟩ | ⟨hi, rfl⟩
  · obtain rfl : r = true := hr.2 hi
    have HC := Lib.hid (txS_any _ w1 (Nat.le_refl _) (HT.out.stays (.of_below HB1.out)) hn hi.2.2)
    clear hr
    go_wp2_with fail
    refine HC.out.mono ?_
    rintro e w2 ⟨rfl, hb2⟩
    have HB2 := Lib.hid (HB1.out.trans (hb2.mono HB1.out.size))
    clear hb2
    go_wp2_with fail
    go_ret
    exact ⟨rfl, HB2.out⟩
  · obtain rfl : r = false := by
      cases r with
      | false => rfl
      | true => exact absurd (hr.1 rfl) hi
    clear hr
    go_wp2_with fail
    go_ret
    exact ⟨rfl, HB1.out⟩
end Go.Proofs.YtjobmgbchpoheaaGreatDoor
namespace Go.Proofs.YtjobmgbchpoheaaGreatDoor
open Go Go.RowKit

theorem model_no {s : List UInt8} {t : Tm} {o' : Option Nat} (h : termO (pTm s 20) (some 0) t o') (hn : ¬ (o' = some s.length ∧ parseM s t)) : ∀ u, ¬ parseM s u := by
  intro u hu
  have hp := parseM_pTm hu
  rcases h with ⟨j, h, rfl⟩ | ⟨h, _⟩
  · rw [hp] at h
    obtain ⟨rfl, rfl⟩ : u = t ∧ s.length = j := by simpa using h
    exact hn ⟨rfl, hu⟩
  · rw [hp] at h
    cases h
def MParsed (s : List UInt8) (w : World) (e : Ending) (w' : World) : Prop :=
  ∃ t o v, e = .returned (.tuple #[v, .bool o]) ∧ ParsedAs s t o ∧ TM w' (fun z => w.heap.size ≤ z) t v ∧ Below w.heap.size w w'
theorem mparsed_fin {w W : World} {s : List UInt8} {t : Tm} {tp rp p : Option Addr} {tc rc c : Nat} {o : Bool} (hb : Below w.heap.size w W) (hN : TM' W (fun z => w.heap.size + 1 ≤ z) t tp tc rp rc p c) (ho : ParsedAs s t o) :
    MParsed s w (.returned (.tuple #[tmV t tp tc rp rc p c, .bool o])) (((((((((W.setCell ⟨w.heap.size, 0, none⟩ (.int .i64 t.kind)).setCell ⟨w.heap.size, 1, none⟩ (.string t.name)).setCell ⟨w.heap.size, 2, none⟩ (.string t.other)).setCell ⟨w.heap.size, 3, none⟩ (.int .i64 t.n)).setCell ⟨w.heap.size, 4, none⟩ (.int .i64 t.ty.kind)).setCell ⟨w.heap.size, 5, none⟩ (.slice tp t.ty.args.length tc)).setCell ⟨w.heap.size, 6, none⟩ (.int .i64 t.res.kind)).setCell ⟨w.heap.size, 7, none⟩ (.slice rp t.res.args.length rc)).setCell ⟨w.heap.size, 8, none⟩ (.slice p t.args.length c)) := by
  have hbl := set9_below W w.heap.size w.heap.size (.int .i64 t.kind) (.string t.name) (.string t.other) (.int .i64 t.n) (.int .i64 t.ty.kind) (.slice tp t.ty.args.length tc) (.int .i64 t.res.kind) (.slice rp t.res.args.length rc) (.slice p t.args.length c) (Nat.le_refl _)
  have hst := set9_stays W w.heap.size (.int .i64 t.kind) (.string t.name) (.string t.other) (.int .i64 t.n) (.int .i64 t.ty.kind) (.slice tp t.ty.args.length tc) (.int .i64 t.res.kind) (.slice rp t.res.args.length rc) (.slice p t.args.length c) (fun z => w.heap.size + 1 ≤ z) (fun h => by omega)
  exact ⟨t, o, _, rfl, ho, ⟨tp, tc, rp, rc, p, c, rfl, (hN.stays hst).mono (fun z hz _ => by omega)⟩, hb.trans hbl⟩
set_option maxRecDepth 100000 in
set_option maxHeartbeats 2000000 in
theorem parseTermS_any (s : ByteArray) (hs : s.size ≤ 1048576) (hT : ∀ R, TermIs (pTm s.data.toList 20) R s 1) (w : World) : Calls Tryz.prog 14 #[.string s] w (MParsed s.data.toList w) := by
  obtain ⟨w0, hw0, hs0, hb0, r0⟩ := box_new w zeroC 29
  obtain ⟨w1, hw1, hs1, hb1, r1⟩ := box_new w0 #[.string s, .int .i64 0, .bool false] 67
  have hrd : RdO w1 w0.heap.size s (some 0) := ⟨Nat.zero_le _, r1⟩
  have HC := Lib.hid (hT _ (some 0) w1 hrd)
  have HW := Lib.hid (And.intro hs0 (And.intro hb0 (And.intro r0 (And.intro hs1 hb1))))
  have HWW := Lib.hid hw1
  clear hs0 hb0 r0 hs1 hb1 r1 hw1 hrd hT
  go_enter Tryz.func14, Tryz.ntmps14
  go_wp2_with fail
  rw [HWW.out]
  refine HC.out.mono ?_
  rintro e w2 ⟨v2, t, o2, rfl, ⟨tp, tc, rp, rc, p, c, rfl, hN2⟩, ho2, hr2, hg2⟩
  obtain ⟨hs0, hb0, r0, hs1, hb1⟩ := HW.out
  have hz2 := hg2.size
  obtain ⟨w3, hw3, hs3, hb3, r3⟩ := box_new w2 (tmC t tp tc rp rc p c) 29
  have hb02 : Below w.heap.size w w2 := ((hb0.trans (hb1.mono (by omega)))).trans ⟨hg2.os, hg2.tape, hg2.output, hg2.size, fun z hz => hg2.block z (by omega) (fun e => by have := Option.some.inj e; omega)⟩
  have hb03 := hb02.trans (hb3.mono hb02.size)
  have ho3 := (hb3.block w.heap.size (by omega)).trans ((hg2.block w.heap.size (by omega) (fun e => by have := Option.some.inj e; omega)).trans ((hb1.block _ (by omega)).trans r0))
  have hr3 := hr2.below hb3
  obtain ⟨i, hi, hri⟩ := hr3.cells
  obtain ⟨d0, d1, d2, _, _⟩ := hri.cells
  have HB3 := Lib.hid hb03
  have HN3 := Lib.hid ((hN2.stays (.of_below hb3)).mono (C' := fun z => w.heap.size + 1 ≤ z) (fun z hz _ => by have : w1.heap.size ≤ z := hz; omega))
  have HO := Lib.hid ho2
  have R3 := Lib.hid r3
  have O3 := Lib.hid ho3
  have q0 := cell_of_blk ho3 0
  have q1 := cell_of_blk ho3 1
  have q2 := cell_of_blk ho3 2
  have q3 := cell_of_blk ho3 3
  have q4 := cell_of_blk ho3 4
  have q5 := cell_of_blk ho3 5
  have q6 := cell_of_blk ho3 6
  have q7 := cell_of_blk ho3 7
  have q8 := cell_of_blk ho3 8
  have qz := unfrozen_of_blk ho3
  simp only [List.getElem?_toArray, List.getElem?_cons_zero, List.getElem?_cons_succ] at q0 q1 q2 q3 q4 q5 q6 q7 q8
  have HI := Lib.hid hi
  have HR3 := Lib.hid hr3
  clear hs0 hb0 r0 hs1 hb1 hz2 hs3 hb3 r3 hb02 hb03 ho3 hr3 hri hN2 ho2 hr2 hg2 hw0 hi
  cases o2 with
  | none =>
    have HN := Lib.hid (model_no HO.out (fun h => by cases h.1))
    go_wp2_with fail
    refine bodyPost_ret (v := .tuple #[tmV zeroM none 0 none 0 none 0, .bool false]) ?_ rfl ?_
    · rw [results_cs rfl]
      clear d0 d1 d2
      go_simp
      all_goals (repeat' apply And.intro) <;> rfl
    · exact mparsed_fin (t := zeroM) HB3.out ⟨.nil _ _, .nil _ _, .nil _ _ _ _⟩ (Or.inr ⟨rfl, rfl, HN.out⟩)
  | some j =>
    obtain ⟨hj, hrj⟩ := HR3.out
    have hij : i = j := by
      have := hrj.cells.2.1
      rw [d1] at this
      have := Option.some.inj this
      injection this with _ h3
      omega
    subst hij
    have hp : pTm s.data.toList 20 0 = some (t, i) := by
      rcases HO.out with ⟨j, h, hj⟩ | ⟨_, h⟩
      · obtain rfl := Option.some.inj hj; exact h
      · cases h
    have hwt := pTm_wt _ _ _ _ _ hp
    clear hj hrj hp
    by_cases hend : i = s.size
    · have HE := Lib.hid hend
      have hie : (i : Int) = (s.size : Int) := by omega
      have hv : ∃ x : List UInt8, (t.Valid ∧ x = t.text) ∨ (¬ t.Valid ∧ x = []) := by
        by_cases h : t.Valid
        · exact ⟨_, Or.inl ⟨h, rfl⟩⟩
        · exact ⟨_, Or.inr ⟨h, rfl⟩⟩
      obtain ⟨x, hx⟩ := hv
      have HX := Lib.hid hx
      have HF := Lib.hid (fmtTermS_any (⟨tp, tc, rp, rc, p, c, rfl, HN3.out⟩ : TM w3 _ t (tmV t tp tc rp rc p c)) (by omega) x hx)
      obtain ⟨g0, g1, g2, g3, g4, g5, g6, g7, g8⟩ := Bx9.of R3.out
      clear hx hend hwt
      by_cases h2 : x = s.data.toList
      · have e2 : (x == s.toList) = true := by rw [ByteArray.toList_eq, ← h2]; simp
        have hpm : parseM s.data.toList t := by
          rcases HX.out with ⟨hv, h3⟩ | ⟨hv, h3⟩
          · exact ⟨hv, by rw [← h3, h2]⟩
          · exfalso
            have h0 : s.size = 0 := by
              have : s.data.toList = [] := by rw [← h2, h3]
              have h4 : s.data.toList.length = 0 := by rw [this]; rfl
              simpa using h4
            have hp0 : pTm s.data.toList 20 0 = none := by
              unfold pTm
              rw [if_pos (by have h4 : s.data.toList.length = 0 := (by simpa using h0); omega)]
            rcases HO.out with ⟨j, h, _⟩ | ⟨_, h⟩
            · rw [hp0] at h; cases h
            · cases h
        have HPM := Lib.hid hpm
        clear h2 hpm
        go_wp2_with fail
        refine HF.out.mono ?_
        rintro e w4 ⟨rfl, hb4⟩
        have HB4 := Lib.hid (HB3.out.trans (hb4.mono HB3.out.size))
        have HN4 := Lib.hid (HN3.out.stays (.of_below hb4))
        have hr4 := (hb4.block _ (Array.getElem?_eq_some_iff.1 R3.out).1).trans R3.out
        have ho4 := (hb4.block _ (Array.getElem?_eq_some_iff.1 O3.out).1).trans O3.out
        clear g0 g1 g2 g3 g4 g5 g6 g7 g8 q0 q1 q2 q3 q4 q5 q6 q7 q8 qz d0 d1 d2
        obtain ⟨g0, g1, g2, g3, g4, g5, g6, g7, g8⟩ := Bx9.of hr4
        have q0 := cell_of_blk ho4 0
        have q1 := cell_of_blk ho4 1
        have q2 := cell_of_blk ho4 2
        have q3 := cell_of_blk ho4 3
        have q4 := cell_of_blk ho4 4
        have q5 := cell_of_blk ho4 5
        have q6 := cell_of_blk ho4 6
        have q7 := cell_of_blk ho4 7
        have q8 := cell_of_blk ho4 8
        have qz := unfrozen_of_blk ho4
        simp only [List.getElem?_toArray, List.getElem?_cons_zero, List.getElem?_cons_succ] at q0 q1 q2 q3 q4 q5 q6 q7 q8
        clear hb4 hr4 ho4
        go_wp2_with fail
        refine bodyPost_ret (v := .tuple #[tmV t tp tc rp rc p c, .bool true]) ?_ rfl ?_
        · rw [results_cs rfl]
          clear g0 g1 g2 g3 g4 g5 g6 g7 g8 e2 hie
          go_simp
          all_goals (first | rfl | ((repeat' apply And.intro) <;> rfl))
        · exact mparsed_fin HB4.out HN4.out (Or.inl ⟨rfl, HPM.out⟩)
      · have e2 : (x == s.toList) = false := by rw [ByteArray.toList_eq]; simpa using h2
        have HN := Lib.hid (model_no HO.out (fun h => by
          rcases HX.out with ⟨hv, h3⟩ | ⟨hv, h3⟩
          · exact h2 (h3.trans h.2.2)
          · exact hv h.2.1))
        clear h2
        go_wp2_with fail
        refine HF.out.mono ?_
        rintro e w4 ⟨rfl, hb4⟩
        have HB4 := Lib.hid (HB3.out.trans (hb4.mono HB3.out.size))
        have HN4 := Lib.hid (HN3.out.stays (.of_below hb4))
        have hr4 := (hb4.block _ (Array.getElem?_eq_some_iff.1 R3.out).1).trans R3.out
        have ho4 := (hb4.block _ (Array.getElem?_eq_some_iff.1 O3.out).1).trans O3.out
        clear g0 g1 g2 g3 g4 g5 g6 g7 g8 q0 q1 q2 q3 q4 q5 q6 q7 q8 qz d0 d1 d2
        obtain ⟨g0, g1, g2, g3, g4, g5, g6, g7, g8⟩ := Bx9.of hr4
        have q0 := cell_of_blk ho4 0
        have q1 := cell_of_blk ho4 1
        have q2 := cell_of_blk ho4 2
        have q3 := cell_of_blk ho4 3
        have q4 := cell_of_blk ho4 4
        have q5 := cell_of_blk ho4 5
        have q6 := cell_of_blk ho4 6
        have q7 := cell_of_blk ho4 7
        have q8 := cell_of_blk ho4 8
        have qz := unfrozen_of_blk ho4
        simp only [List.getElem?_toArray, List.getElem?_cons_zero, List.getElem?_cons_succ] at q0 q1 q2 q3 q4 q5 q6 q7 q8
        clear hb4 hr4 ho4
        go_wp2_with fail
        refine bodyPost_ret (v := .tuple #[tmV zeroM none 0 none 0 none 0, .bool false]) ?_ rfl ?_
        · rw [results_cs rfl]
          clear g0 g1 g2 g3 g4 g5 g6 g7 g8 e2 hie
          go_simp
          all_goals (repeat' apply And.intro) <;> rfl
        · exact mparsed_fin (t := zeroM) HB4.out ⟨.nil _ _, .nil _ _, .nil _ _ _ _⟩ (Or.inr ⟨rfl, rfl, HN.out⟩)
    · have HN := Lib.hid (model_no HO.out (fun h => hend (by have := Option.some.inj h.1; simpa using this)))
      have hne : ¬ (i : Int) = (s.size : Int) := by omega
      clear hend hwt
      go_wp2_with fail
      refine bodyPost_ret (v := .tuple #[tmV zeroM none 0 none 0 none 0, .bool false]) ?_ rfl ?_
      · rw [results_cs rfl]
        clear d0 d1 d2 hne
        go_simp
        all_goals (repeat' apply And.intro) <;> rfl
      · exact mparsed_fin (t := zeroM) HB3.out ⟨.nil _ _, .nil _ _, .nil _ _ _ _⟩ (Or.inr ⟨rfl, rfl, HN.out⟩)
end Go.Proofs.YtjobmgbchpoheaaGreatDoor
namespace Go.Proofs.YtjobmgbchpoheaaGreatDoor
open Go

section
variable (k n : Int) (a o : ByteArray) (t r : Ty) (ts : List Tm) (us : List Ty)
theorem cKind : (Tm.mk k a o n t r ts).kind = k := rfl
theorem cName : (Tm.mk k a o n t r ts).name = a := rfl
theorem cOther : (Tm.mk k a o n t r ts).other = o := rfl
theorem cN : (Tm.mk k a o n t r ts).n = n := rfl
theorem cTy : (Tm.mk k a o n t r ts).ty = t := rfl
theorem cRes : (Tm.mk k a o n t r ts).res = r := rfl
theorem cArgs : (Tm.mk k a o n t r ts).args = ts := rfl
theorem yKind : (Ty.mk k us).kind = k := rfl
theorem yArgs : (Ty.mk k us).args = us := rfl
end
end Go.Proofs.YtjobmgbchpoheaaGreatDoor
