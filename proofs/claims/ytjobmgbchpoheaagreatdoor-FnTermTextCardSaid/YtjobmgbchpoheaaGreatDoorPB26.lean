/-
  Several texts of the proof in one (each says below what it holds): RdA RdP RdL RdR.
-/
import Derived.Test.YtjobmgbchpoheaaGreatDoorPB25
import Derived.Test.YtjobmgbchpoheaaGreatDoorPB4
import Derived.RegionTactic
import Derived.ChangeAlike
namespace Go.Proofs.YtjobmgbchpoheaaGreatDoor
open Go Go.RowKit

theorem rdo_drewN {W : World} {R : Nat} {s : ByteArray} {o : Option Nat} (h : RdO W R s o) (k : Nat) : RdO (W.drewN k) R s o := by
  cases o with
  | none => exact h
  | some i => exact h
theorem rdo_drew {W : World} {R : Nat} {s : ByteArray} {o : Option Nat} (h : RdO W R s o) : RdO W.drew R s o := by
  cases o with
  | none => exact h
  | some i => exact h
theorem args_fin {wb W : World} {C : Nat → Prop} {R bx rb : Nat} {s : ByteArray} {q : Option Nat} {t : Tm} {tp rp p : Option Addr} {tc rc c : Nat} {xs : List Value} (h : BoxR wb C R s bx rb q W t tp tc rp rc p c xs) :
    NewTm (((((((((W.setCell ⟨rb, 0, none⟩ (.int .i64 t.kind)).setCell ⟨rb, 1, none⟩ (.string t.name)).setCell ⟨rb, 2, none⟩ (.string t.other)).setCell ⟨rb, 3, none⟩ (.int .i64 t.n)).setCell ⟨rb, 4, none⟩ (.int .i64 t.ty.kind)).setCell ⟨rb, 5, none⟩ (.slice tp t.ty.args.length tc)).setCell ⟨rb, 6, none⟩ (.int .i64 t.res.kind)).setCell ⟨rb, 7, none⟩ (.slice rp t.res.args.length rc)).setCell ⟨rb, 8, none⟩ (.slice p t.args.length c)) wb.heap.size C t tp tc rp rc p c xs ∧ RdO (((((((((W.setCell ⟨rb, 0, none⟩ (.int .i64 t.kind)).setCell ⟨rb, 1, none⟩ (.string t.name)).setCell ⟨rb, 2, none⟩ (.string t.other)).setCell ⟨rb, 3, none⟩ (.int .i64 t.n)).setCell ⟨rb, 4, none⟩ (.int .i64 t.ty.kind)).setCell ⟨rb, 5, none⟩ (.slice tp t.ty.args.length tc)).setCell ⟨rb, 6, none⟩ (.int .i64 t.res.kind)).setCell ⟨rb, 7, none⟩ (.slice rp t.res.args.length rc)).setCell ⟨rb, 8, none⟩ (.slice p t.args.length c)) R s q ∧ wb.grownBy (((((((((W.setCell ⟨rb, 0, none⟩ (.int .i64 t.kind)).setCell ⟨rb, 1, none⟩ (.string t.name)).setCell ⟨rb, 2, none⟩ (.string t.other)).setCell ⟨rb, 3, none⟩ (.int .i64 t.n)).setCell ⟨rb, 4, none⟩ (.int .i64 t.ty.kind)).setCell ⟨rb, 5, none⟩ (.slice tp t.ty.args.length tc)).setCell ⟨rb, 6, none⟩ (.int .i64 t.res.kind)).setCell ⟨rb, 7, none⟩ (.slice rp t.res.args.length rc)).setCell ⟨rb, 8, none⟩ (.slice p t.args.length c)) (some R) := by
  have hb := set9_below W rb rb (.int .i64 t.kind) (.string t.name) (.string t.other) (.int .i64 t.n) (.int .i64 t.ty.kind) (.slice tp t.ty.args.length tc) (.int .i64 t.res.kind) (.slice rp t.res.args.length rc) (.slice p t.args.length c) (Nat.le_refl _)
  have hst := set9_stays W rb (.int .i64 t.kind) (.string t.name) (.string t.other) (.int .i64 t.n) (.int .i64 t.ty.kind) (.slice tp t.ty.args.length tc) (.int .i64 t.res.kind) (.slice rp t.res.args.length rc) (.slice p t.args.length c) (InR C bx rb) (fun h => h.2.2 rfl)
  have hR := h.hR
  have hr := h.hr
  exact ⟨(h.new.stays hst).base (Nat.le_refl _) (fun z hz _ => hz.1), h.rd.belowAt (by omega) hb, gb_more h.grown hr hb⟩
set_option maxRecDepth 100000 in
set_option maxHeartbeats 6000000 in
theorem l6Args_any {f : Nat → Option (Tm × Nat)} {R : Nat} {s : ByteArray} {D : Int} (hT : TermIs f R s D) (hs : s.size ≤ 1073741824) (N : Nat) (hN : N ≤ 3) (kk : Int) (a o : ByteArray) (n : Int) (ty res : Ty) (es : List Tm) (he : es.length ≤ 1) (tp : Option Addr) (tc : Nat) (rp : Option Addr) (rc : Nat) (p : Option Addr) (c : Nat) (xs : List Value) (wb w : World) (q : Option Nat)
    (hr : RdO w R s q) (hg : wb.grownBy w (some R)) (C : Nat → Prop) (hRb : R < wb.heap.size) (hCR : ∀ z, C z → z ≠ R) (hCb : ∀ z, wb.heap.size ≤ z → C z) (hn : NewTm w wb.heap.size C (.mk kk a o n ty res es) tp tc rp rc p c xs) :
    Calls Tryz.prog 116 #[.pointer (some ⟨R, 0, none⟩), tmV (.mk kk a o n ty res es) tp tc rp rc p c, .int .i64 N, .int .i64 D] w (ArgsRet f R s N (.mk kk a o n ty res es) q wb C) := by
  obtain ⟨i0, hi, hz0, hz1, hz2⟩ := info_parts infoTm
  obtain ⟨w0, hw0, hs0, hb0, r0, r1⟩ := box_new2 w (tmC (.mk kk a o n ty res es) tp tc rp rc p c) zeroC 29 29
  have hwz := hg.size
  have hB0 : BoxR wb C R s w.heap.size (w.heap.size + 1) q w0 (.mk kk a o n ty res es) tp tc rp rc p c xs :=
    ⟨hr.below hb0, gb_more hg hwz hb0, r1, r0, (hn.base (Nat.le_refl _) (fun z hz hl => ⟨hz, by omega, by omega⟩)).stays (.of_below (hb0.mono (by omega))) , hRb, hCR, hCb, hwz, by omega, by omega⟩
  have HB0 := Lib.hid hB0
  have HT := Lib.hid hT
  clear hB0 hb0 r0 r1 hs0 hr hg hn hT hwz hCR hCb
  go_enter Tryz.func116, Tryz.ntmps116
  go_wp2_with fail
  go_loopw [9] (fun v wr => ∃ m ts us o1 p c xs, m ≤ N ∧ v = .int .i64 (m : Nat) ∧ argsO f s.data.toList m q ts o1 ∧ us = es ++ ts ∧ BoxR wb C R s w.heap.size (w.heap.size + 1) o1 wr (.mk kk a o n ty res us) tp tc rp rc p c xs) (fun v _ => N - (intOf v).toNat)
  case atStart => exact ⟨0, [], es, q, p, c, xs, Nat.zero_le _, rfl, ⟨rfl, rfl⟩, by rw [List.append_nil], HB0.out⟩
  case round =>
    obtain ⟨m, ts, us, o1, p, c, xs, hm, rfl, har, hus, hB⟩ := hrel
    have hlen := argsO_len har
    have hl4 : us.length ≤ 4 := by rw [hus, List.length_append]; omega
    have HUS := Lib.hid hus
    have HL4 := Lib.hid hlen
    have HAR := Lib.hid har
    have HB := Lib.hid hB
    have j0 : (0 : Int) ≤ (m : Int) := Int.natCast_nonneg _
    clear har hlen hus
    by_cases hgo : m < N ∧ o1 ≠ none
    · obtain ⟨hlt, hno⟩ := hgo
      obtain ⟨i, rfl⟩ : ∃ i, o1 = some i := by
        cases o1 with
        | none => exact absurd rfl hno
        | some i => exact ⟨i, rfl⟩
      obtain ⟨c0, c1, c2, z1, z2⟩ := hB.rd.2.cells
      have hd : decide ((m : Int) < (N : Int)) = true := decide_eq_true (by omega)
      clear hB hno
      by_cases hm0 : m = 0
      · have HOSTEP := Lib.hid (fun t o' (h : termO f (some i) t o') => show termO f (if m = 0 then some i else mustO [32] s.data.toList (some i)) t o' by rw [if_pos hm0]; exact h)
        have hgt : decide (0 < m) = false := decide_eq_false (by omega)
        have HB2 := Lib.hid HB.out
        clear hm0
        have hB2d : BoxR wb C R s w.heap.size (w.heap.size + 1) (some i) wr.drew (.mk kk a o n ty res us) tp tc rp rc p c xs := HB2.out.step (rdo_drew HB2.out.rd) (gb_drew (grown_refl _ _))
        have HB2D := Lib.hid hB2d
        have hcall := HT.out (some i) wr.drew hB2d.rd
        have HC := Lib.hid hcall
        have d8 := cell_of_blk HB2.out.box 8
        simp only [tmC, List.getElem?_toArray, List.getElem?_cons_zero, List.getElem?_cons_succ, Tm.args] at d8
        have dz := unfrozen_of_blk HB2.out.box
        clear hB2d hcall
        go_wp2_with fail
        go_region_law (first
          | (refine step_app1 (w0 := w6) (v := .slice p us.length c) (n := us.length) (xs := xs) rfl (.tmp 27) (.tmp 31) rfl Tryz.underlying27 hi hz0 hz1 hz2 rfl (by decide) rfl HB6.out.new.row.own _ rfl (by simp) rfl (fun u hu => by simp at hu; rcases hu with rfl | rfl | rfl | rfl | rfl | rfl | rfl | rfl | rfl <;> rfl) (by unfold maxLen; omega) (by omega) (by have := HB6.out.bxlt; have := HB6.out.hb; omega) ?_; intro w' g2' cap2 hA; have d6b := (hA.kept w.heap.size HB6.out.bxlt (fun e => (HB6.out.new.row.blk _ e).2.1 rfl)).1.trans HB6.out.box; have d6 : w'.cell? ⟨w.heap.size, 8, none⟩ = some (.slice p us.length c) := cell_of_blk d6b 8; have d6z := unfrozen_of_blk d6b)
          | (go_simp; go_at_call 37; refine HC.out.mono ?_; rintro e w6 ⟨v6, t6, o6, rfl, ⟨tp6, tc6, rp6, rc6, p6, c6, rfl, hN6⟩, ho6, hr6, hg6⟩; have hb6 := HB2D.out.step hr6 hg6; have HB6 := Lib.hid hb6; have HO6 := Lib.hid ho6; have d4 : w6.cell? ⟨w.heap.size, 8, none⟩ = some (.slice p us.length c) := cell_of_blk hb6.box 8; have d4z := unfrozen_of_blk hb6.box; have d5 := fun (o : Obj) => al_cell d4 o; clear hb6 ho6 hr6))
        all_goals
          have hown : ∀ z, wr.drew.heap.size ≤ z → (Value.slice p us.length c).ownBlock ≠ some z := fun z hz e => by
            have := (HB2D.out.new.row.own.lt z e).2
            omega
          have hx := (hN6.mono (C' := fun z => InR C w.heap.size (w.heap.size + 1) z ∧ (Value.slice p us.length c).ownBlock ≠ some z) (fun z hz _ => ⟨⟨HB2D.out.hCb z (by have := HB2D.out.bxlt; have := HB2D.out.hb; omega), by have := HB2D.out.bxlt; omega, by have := HB2D.out.rblt; omega⟩, hown z hz⟩)).ms
          have HBZ := Lib.hid (HB6.out.app hA hx)
          have HAZ := Lib.hid (show argsO f s.data.toList (m + 1) q (ts ++ [t6]) o6 from ⟨ts, _, t6, HAR.out, by simp, (HOSTEP.out _ _ HO6.out), rfl⟩)
          clear hx hown hA hN6 hg6 d4 d4z d5 d6b d6 d6z d8 dz
          go_wp2_with fail
          go_roundw
          case rel => exact ⟨m + 1, ts ++ [t6], us ++ [t6], o6, some ⟨g2', 0, none⟩, cap2, _, by omega, by go_num, HAZ.out, by rw [HUS.out, List.append_assoc], HBZ.out⟩
          case measure => simp [intOf]; omega
      · have HOSTEP := Lib.hid (fun t o' (h : termO f (mustO [32] s.data.toList (some i)) t o') => show termO f (if m = 0 then some i else mustO [32] s.data.toList (some i)) t o' by rw [if_neg hm0]; exact h)
        have hgt : decide (0 < m) = true := decide_eq_true (by omega)
        have HQ := Lib.hid (mustO_any (o := some i) [32] (by decide) hs HB.out.rd)
        clear hm0
        go_wp2_with fail
        refine HQ.out.mono ?_
        rintro e w2 ⟨rfl, hr2, hg2⟩
        have HB2 := Lib.hid (HB.out.step hr2 hg2)
        clear hr2 hg2 c0 c1 c2 z1 z2
        have hB2d : BoxR wb C R s w.heap.size (w.heap.size + 1) (mustO [32] s.data.toList (some i)) w2.drew (.mk kk a o n ty res us) tp tc rp rc p c xs := HB2.out.step (rdo_drew HB2.out.rd) (gb_drew (grown_refl _ _))
        have HB2D := Lib.hid hB2d
        have hcall := HT.out (mustO [32] s.data.toList (some i)) w2.drew hB2d.rd
        have HC := Lib.hid hcall
        have d8 := cell_of_blk HB2.out.box 8
        simp only [tmC, List.getElem?_toArray, List.getElem?_cons_zero, List.getElem?_cons_succ, Tm.args] at d8
        have dz := unfrozen_of_blk HB2.out.box
        clear hB2d hcall
        go_wp2_with fail
        go_region_law (first
          | (refine step_app1 (w0 := w6) (v := .slice p us.length c) (n := us.length) (xs := xs) rfl (.tmp 27) (.tmp 31) rfl Tryz.underlying27 hi hz0 hz1 hz2 rfl (by decide) rfl HB6.out.new.row.own _ rfl (by simp) rfl (fun u hu => by simp at hu; rcases hu with rfl | rfl | rfl | rfl | rfl | rfl | rfl | rfl | rfl <;> rfl) (by unfold maxLen; omega) (by omega) (by have := HB6.out.bxlt; have := HB6.out.hb; omega) ?_; intro w' g2' cap2 hA; have d6b := (hA.kept w.heap.size HB6.out.bxlt (fun e => (HB6.out.new.row.blk _ e).2.1 rfl)).1.trans HB6.out.box; have d6 : w'.cell? ⟨w.heap.size, 8, none⟩ = some (.slice p us.length c) := cell_of_blk d6b 8; have d6z := unfrozen_of_blk d6b)
          | (go_simp; go_at_call 37; refine HC.out.mono ?_; rintro e w6 ⟨v6, t6, o6, rfl, ⟨tp6, tc6, rp6, rc6, p6, c6, rfl, hN6⟩, ho6, hr6, hg6⟩; have hb6 := HB2D.out.step hr6 hg6; have HB6 := Lib.hid hb6; have HO6 := Lib.hid ho6; have d4 : w6.cell? ⟨w.heap.size, 8, none⟩ = some (.slice p us.length c) := cell_of_blk hb6.box 8; have d4z := unfrozen_of_blk hb6.box; have d5 := fun (o : Obj) => al_cell d4 o; clear hb6 ho6 hr6))
        all_goals
          have hown : ∀ z, w2.drew.heap.size ≤ z → (Value.slice p us.length c).ownBlock ≠ some z := fun z hz e => by
            have := (HB2D.out.new.row.own.lt z e).2
            omega
          have hx := (hN6.mono (C' := fun z => InR C w.heap.size (w.heap.size + 1) z ∧ (Value.slice p us.length c).ownBlock ≠ some z) (fun z hz _ => ⟨⟨HB2D.out.hCb z (by have := HB2D.out.bxlt; have := HB2D.out.hb; omega), by have := HB2D.out.bxlt; omega, by have := HB2D.out.rblt; omega⟩, hown z hz⟩)).ms
          have HBZ := Lib.hid (HB6.out.app hA hx)
          have HAZ := Lib.hid (show argsO f s.data.toList (m + 1) q (ts ++ [t6]) o6 from ⟨ts, _, t6, HAR.out, by simp, (HOSTEP.out _ _ HO6.out), rfl⟩)
          clear hx hown hA hN6 hg6 d4 d4z d5 d6b d6 d6z d8 dz
          go_wp2_with fail
          go_roundw
          case rel => exact ⟨m + 1, ts ++ [t6], us ++ [t6], o6, some ⟨g2', 0, none⟩, cap2, _, by omega, by go_num, HAZ.out, by rw [HUS.out, List.append_assoc], HBZ.out⟩
          case measure => simp [intOf]; omega
    · have HEND := Lib.hid (show m = N ∨ o1 = none by
        by_cases h : o1 = none
        · exact Or.inr h
        · exact Or.inl (by have : ¬ m < N := fun h2 => hgo ⟨h2, h⟩; omega))
      obtain ⟨i, -, hrd⟩ := hB.rd.cells
      obtain ⟨c0, c1, c2, z1, z2⟩ := hrd.cells
      have HQ := Lib.hid (mustO_any (o := o1) [41] (by decide) hs hB.rd)
      have hd : decide (m < N) = false ∨ (decide (m < N) = true ∧ o1.isNone = true) := by
        by_cases h : m < N
        · refine Or.inr ⟨decide_eq_true (by omega), ?_⟩
          cases o1 with
          | none => rfl
          | some i => exact absurd ⟨h, by simp⟩ hgo
        · exact Or.inl (decide_eq_false (by omega))
      clear hB hgo hrd
      rcases hd with hd | ⟨hd, hbad⟩
      · go_wp2_with fail
        refine HQ.out.mono ?_
        rintro e w2 ⟨rfl, hr2, hg2⟩
        have hB2 := HB.out.step hr2 hg2
        have HB2 := Lib.hid hB2
        have g0 := cell_of_blk hB2.box 0
        have g1 := cell_of_blk hB2.box 1
        have g2 := cell_of_blk hB2.box 2
        have g3 := cell_of_blk hB2.box 3
        have g4 := cell_of_blk hB2.box 4
        have g5 := cell_of_blk hB2.box 5
        have g6 := cell_of_blk hB2.box 6
        have g7 := cell_of_blk hB2.box 7
        have g8 := cell_of_blk hB2.box 8
        have r0 := cell_of_blk hB2.out 0
        have r1 := cell_of_blk hB2.out 1
        have r2 := cell_of_blk hB2.out 2
        have r3 := cell_of_blk hB2.out 3
        have r4 := cell_of_blk hB2.out 4
        have r5 := cell_of_blk hB2.out 5
        have r6 := cell_of_blk hB2.out 6
        have r7 := cell_of_blk hB2.out 7
        have r8 := cell_of_blk hB2.out 8
        have rz := unfrozen_of_blk hB2.out
        simp only [tmC, List.getElem?_toArray, List.getElem?_cons_zero, List.getElem?_cons_succ, Tm.kind, Tm.name, Tm.other, Tm.n, Tm.ty, Tm.res, Tm.args] at g0 g1 g2 g3 g4 g5 g6 g7 g8 r0 r1 r2 r3 r4 r5 r6 r7 r8
        clear hB2 hr2 hg2 c0 c1 c2 z1 z2 hd
        go_wp2_with fail
        refine bodyPost_ret (v := tmV (.mk kk a o n ty res us) tp tc rp rc p c) ?_ rfl ?_
        · rw [results_cell1 rfl]
          go_simp
          all_goals (repeat' apply And.intro) <;> rfl
        · obtain ⟨x1, x2, x3⟩ := args_fin HB2.out
          rw [HUS.out] at x1 x2 x3 ⊢
          exact ⟨m, ts, o1, tp, tc, rp, rc, p, c, xs, hm, HEND.out, HAR.out, rfl, x1, x2, x3⟩
      · rw [hbad] at c2
        clear hbad
        go_wp2_with fail
        refine HQ.out.mono ?_
        rintro e w2 ⟨rfl, hr2, hg2⟩
        have hB2 := HB.out.step hr2 hg2
        have HB2 := Lib.hid hB2
        have g0 := cell_of_blk hB2.box 0
        have g1 := cell_of_blk hB2.box 1
        have g2 := cell_of_blk hB2.box 2
        have g3 := cell_of_blk hB2.box 3
        have g4 := cell_of_blk hB2.box 4
        have g5 := cell_of_blk hB2.box 5
        have g6 := cell_of_blk hB2.box 6
        have g7 := cell_of_blk hB2.box 7
        have g8 := cell_of_blk hB2.box 8
        have r0 := cell_of_blk hB2.out 0
        have r1 := cell_of_blk hB2.out 1
        have r2 := cell_of_blk hB2.out 2
        have r3 := cell_of_blk hB2.out 3
        have r4 := cell_of_blk hB2.out 4
        have r5 := cell_of_blk hB2.out 5
        have r6 := cell_of_blk hB2.out 6
        have r7 := cell_of_blk hB2.out 7
        have r8 := cell_of_blk hB2.out 8
        have rz := unfrozen_of_blk hB2.out
        simp only [tmC, List.getElem?_toArray, List.getElem?_cons_zero, List.getElem?_cons_succ, Tm.kind, Tm.name, Tm.other, Tm.n, Tm.ty, Tm.res, Tm.args] at g0 g1 g2 g3 g4 g5 g6 g7 g8 r0 r1 r2 r3 r4 r5 r6 r7 r8
        clear hB2 hr2 hg2 c0 c1 c2 z1 z2 hd
        go_wp2_with fail
        refine bodyPost_ret (v := tmV (.mk kk a o n ty res us) tp tc rp rc p c) ?_ rfl ?_
        · rw [results_cell1 rfl]
          go_simp
          all_goals (repeat' apply And.intro) <;> rfl
        · obtain ⟨x1, x2, x3⟩ := args_fin HB2.out
          rw [HUS.out] at x1 x2 x3 ⊢
          exact ⟨m, ts, o1, tp, tc, rp, rc, p, c, xs, hm, HEND.out, HAR.out, rfl, x1, x2, x3⟩
end Go.Proofs.YtjobmgbchpoheaaGreatDoor
namespace Go.Proofs.YtjobmgbchpoheaaGreatDoor
open Go Go.RowKit

theorem pre1 (c : UInt8) (s : List UInt8) (j : Nat) : pre [c] s j = true ↔ s[j]? = some c := by
  unfold pre
  rw [List.isPrefixOf_iff_prefix, ← List.head?_drop]
  constructor
  · rintro ⟨r, hr⟩
    rw [← hr]
    rfl
  · intro h
    cases hd : s.drop j with
    | nil => rw [hd] at h; cases h
    | cons x xs =>
      rw [hd] at h
      obtain rfl : x = c := by simpa using h
      exact ⟨xs, rfl⟩
theorem must_yes1 {c : UInt8} {s : List UInt8} {j : Nat} (h : s[j]? = some c) : mustO [c] s (some j) = some (j + 1) := by
  unfold mustO
  simp only [(pre1 c s j).2 h, if_true, List.length_singleton]
theorem must_no1 {c : UInt8} {s : List UInt8} {j : Nat} (h : ¬ s[j]? = some c) : mustO [c] s (some j) = none := by
  unfold mustO
  have : pre [c] s j = false := by
    rw [Bool.eq_false_iff]
    exact fun e => h ((pre1 c s j).1 e)
  simp [this]
theorem must_none (q s : List UInt8) : mustO q s none = none := rfl
def argsP (f : Nat → Option (Tm × Nat)) (s es : List UInt8) : Option Nat → List Tm → Option Nat → Prop
  | some i, ts, o' => (∃ j, pts f s es i = some (ts, j) ∧ o' = some j) ∨ (pts f s es i = none ∧ o' = none)
  | none, _, o' => o' = none
def signs : Nat → List UInt8
  | 1 => [41]
  | 2 => [32, 41]
  | _ => [32, 32, 41]
theorem args_pts {f : Nat → Option (Tm × Nat)} {s : List UInt8} {N : Nat} (hN : 1 ≤ N ∧ N ≤ 3) {m : Nat} {o : Option Nat} {ts : List Tm} {o1 : Option Nat} (hm : m ≤ N) (he : m = N ∨ o1 = none) (h : argsO f s m o ts o1) :
    argsP f s (signs N) o ts (mustO [41] s o1) := by
  match m, hm, he, h with
  | 0, hm, he, ⟨_, ho⟩ =>
    rcases he with he | he
    · omega
    · rw [he, must_none]
      rw [he] at ho
      rw [← ho]
      rfl
  | 1, hm, he, ⟨ts0, o0, t, ⟨h1, h2⟩, hne, ht, hts⟩ =>
    subst h1; subst h2; subst hts
    cases o0 with
    | none => exact absurd rfl hne
    | some i =>
      simp only [if_true] at ht
      rcases ht with ⟨j, hf, rfl⟩ | ⟨hf, rfl⟩
      · obtain rfl : 1 = N := by simpa using he
        by_cases hc : s[j]? = some 41
        · rw [must_yes1 hc]
          exact Or.inl ⟨j + 1, by simp [signs, pts, hf, hc], rfl⟩
        · rw [must_no1 hc]
          exact Or.inr ⟨by simp [signs, pts, hf, hc], rfl⟩
      · rw [must_none]
        refine Or.inr ⟨?_, rfl⟩
        rcases (show N = 1 ∨ N = 2 ∨ N = 3 by omega) with rfl | rfl | rfl <;> simp [signs, pts, hf]
  | 2, hm, he, ⟨ts0, o0, t, ⟨ts1, oa, t1, ⟨h1, h2⟩, hne1, ht1, hts1⟩, hne, ht, hts⟩ =>
    subst h1; subst h2; subst hts1; subst hts
    cases oa with
    | none => exact absurd rfl hne1
    | some i =>
      simp only [if_true] at ht1
      rcases ht1 with ⟨j, hf, rfl⟩ | ⟨hf, rfl⟩
      · simp only [Nat.one_ne_zero, if_false] at ht
        by_cases hc : s[j]? = some 32
        · rw [must_yes1 hc] at ht
          rcases ht with ⟨j2, hf2, rfl⟩ | ⟨hf2, rfl⟩
          · obtain rfl : 2 = N := by simpa using he
            by_cases hc2 : s[j2]? = some 41
            · rw [must_yes1 hc2]
              exact Or.inl ⟨j2 + 1, by simp [signs, pts, hf, hc, hf2, hc2], rfl⟩
            · rw [must_no1 hc2]
              exact Or.inr ⟨by simp [signs, pts, hf, hc, hf2, hc2], rfl⟩
          · rw [must_none]
            refine Or.inr ⟨?_, rfl⟩
            rcases (show N = 2 ∨ N = 3 by omega) with rfl | rfl <;> simp [signs, pts, hf, hc, hf2]
        · rw [must_no1 hc] at ht
          have ht' : o1 = none := ht
          subst ht'
          rw [must_none]
          refine Or.inr ⟨?_, rfl⟩
          rcases (show N = 2 ∨ N = 3 by omega) with rfl | rfl <;> simp [signs, pts, hf, hc]
      · exact absurd rfl hne
  | 3, hm, he, ⟨ts0, o0, t, ⟨ts1, oa, t1, ⟨ts2, ob, t2, ⟨h1, h2⟩, hne2, ht2, hts2⟩, hne1, ht1, hts1⟩, hne, ht, hts⟩ =>
    subst h1; subst h2; subst hts2; subst hts1; subst hts
    obtain rfl : N = 3 := by omega
    cases ob with
    | none => exact absurd rfl hne2
    | some i =>
      simp only [if_true] at ht2
      rcases ht2 with ⟨j, hf, rfl⟩ | ⟨hf, rfl⟩
      · simp only [Nat.one_ne_zero, if_false] at ht1
        by_cases hc : s[j]? = some 32
        · rw [must_yes1 hc] at ht1
          rcases ht1 with ⟨j2, hf2, rfl⟩ | ⟨hf2, rfl⟩
          · rw [if_neg (by decide)] at ht
            by_cases hc2 : s[j2]? = some 32
            · rw [must_yes1 hc2] at ht
              rcases ht with ⟨j3, hf3, rfl⟩ | ⟨hf3, rfl⟩
              · by_cases hc3 : s[j3]? = some 41
                · rw [must_yes1 hc3]
                  exact Or.inl ⟨j3 + 1, by simp [signs, pts, hf, hc, hf2, hc2, hf3, hc3], rfl⟩
                · rw [must_no1 hc3]
                  exact Or.inr ⟨by simp [signs, pts, hf, hc, hf2, hc2, hf3, hc3], rfl⟩
              · rw [must_none]
                exact Or.inr ⟨by simp [signs, pts, hf, hc, hf2, hc2, hf3], rfl⟩
            · rw [must_no1 hc2] at ht
              have ht' : o1 = none := ht
              subst ht'
              rw [must_none]
              exact Or.inr ⟨by simp [signs, pts, hf, hc, hf2, hc2], rfl⟩
          · exact absurd rfl hne
        · rw [must_no1 hc] at ht1
          have ht' : o0 = none := ht1
          exact absurd ht' hne
      · exact absurd rfl hne1
  | k + 4, hm, _, _ => omega
end Go.Proofs.YtjobmgbchpoheaaGreatDoor
namespace Go.Proofs.YtjobmgbchpoheaaGreatDoor
open Go Go.RowKit
structure LS (w0 : World) (R : Nat) (s : ByteArray) (rb bx : Nat) (q : Option Nat) (W : World) (t : Tm) (tp : Option Addr) (tc : Nat) (rp : Option Addr) (rc : Nat) : Prop where
  rd : RdO W R s q
  grown : w0.grownBy W (some R)
  out : W.heap[rb]? = some (.cells zeroC 29 (0, 0))
  box : W.heap[bx]? = some (.cells (tmC t tp tc rp rc none 0) 29 (0, 0))
  ty : TS W (fun z => w0.heap.size ≤ z ∧ z ≠ bx) t.ty.args (.slice tp t.ty.args.length tc)
  res : TS W (fun z => w0.heap.size ≤ z ∧ z ≠ bx) t.res.args (.slice rp t.res.args.length rc)
  hR : R < w0.heap.size
  hrb : rb < w0.heap.size
  ne : rb ≠ R
  hb : w0.heap.size ≤ bx
section
variable {w0 W W' : World} {R rb bx : Nat} {s : ByteArray} {q q' : Option Nat} {k n : Int} {a o : ByteArray} {ty res : Ty} {tp rp : Option Addr} {tc rc : Nat}
theorem LS.bxlt {t : Tm} (h : LS w0 R s rb bx q W t tp tc rp rc) : bx < W.heap.size := (Array.getElem?_eq_some_iff.1 h.box).1
theorem LS.rblt {t : Tm} (h : LS w0 R s rb bx q W t tp tc rp rc) : rb < W.heap.size := (Array.getElem?_eq_some_iff.1 h.out).1
theorem LS.step {t : Tm} (h : LS w0 R s rb bx q W t tp tc rp rc) (hr : RdO W' R s q') (hg : W.grownBy W' (some R)) : LS w0 R s rb bx q' W' t tp tc rp rc := by
  have hR := h.hR
  have hb := h.hb
  have st : Stays (fun z => w0.heap.size ≤ z ∧ z ≠ bx) W W' := ⟨hg.size, fun z hz hl => hg.block z hl (fun e => by have := Option.some.inj e; have := hz.1; omega)⟩
  exact ⟨hr, grownBy_trans h.grown hg, (hg.block _ h.rblt (fun e => h.ne (Option.some.inj e))).trans h.out, (hg.block _ h.bxlt (fun e => by have := Option.some.inj e; omega)).trans h.box,
    h.ty.stays st, h.res.stays st, h.hR, h.hrb, h.ne, h.hb⟩
theorem LS.set {t t' : Tm} {tp' rp' : Option Addr} {tc' rc' : Nat} (h : LS w0 R s rb bx q W t tp tc rp rc) (hb : Below bx W W') (hbx : W'.heap[bx]? = some (.cells (tmC t' tp' tc' rp' rc' none 0) 29 (0, 0)))
    (hst : Stays (fun z => w0.heap.size ≤ z ∧ z ≠ bx) W W')
    (hty : TS W (fun z => w0.heap.size ≤ z ∧ z ≠ bx) t'.ty.args (.slice tp' t'.ty.args.length tc')) (hres : TS W (fun z => w0.heap.size ≤ z ∧ z ≠ bx) t'.res.args (.slice rp' t'.res.args.length rc')) : LS w0 R s rb bx q W' t' tp' tc' rp' rc' := by
  have hR := h.hR
  have hbb := h.hb
  have hrb := h.hrb
  exact ⟨h.rd.belowAt (by omega) hb, gb_more h.grown hbb hb, (hb.block _ (by omega)).trans h.out, hbx, hty.stays hst, hres.stays hst, h.hR, h.hrb, h.ne, h.hb⟩
theorem LS.setOther (h : LS w0 R s rb bx q W (.mk k a o n ty res []) tp tc rp rc) (o' : ByteArray) : LS w0 R s rb bx q (W.setCell ⟨bx, 2, none⟩ (.string o')) (.mk k a o' n ty res []) tp tc rp rc :=
  h.set ((Below.refl _ W).setCell (p := ⟨bx, 2, none⟩) (Nat.le_refl _) _) (by rw [Go.Joins.block_setCell h.box _]; rfl) (setCell_stays _ _ _ _ _ (by simp)) h.ty h.res
theorem LS.setTy {u : Ty} {p : Option Addr} {c : Nat} (h : LS w0 R s rb bx q W (.mk k a o n ty res []) tp tc rp rc) (hu : TS W (fun z => w0.heap.size ≤ z ∧ z ≠ bx) u.args (.slice p u.args.length c)) :
    LS w0 R s rb bx q ((W.setCell ⟨bx, 4, none⟩ (.int .i64 u.kind)).setCell ⟨bx, 5, none⟩ (.slice p u.args.length c)) (.mk k a o n u res []) p c rp rc :=
  h.set (((Below.refl _ W).setCell (p := ⟨bx, 4, none⟩) (Nat.le_refl _) _).setCell (p := ⟨bx, 5, none⟩) (Nat.le_refl _) _) (by rw [Go.Joins.block_setCell (Go.Joins.block_setCell h.box _) _]; rfl)
    ((setCell_stays _ _ _ _ _ (by simp)).trans (setCell_stays _ _ _ _ _ (by simp))) hu h.res
theorem LS.setRes {u : Ty} {p : Option Addr} {c : Nat} (h : LS w0 R s rb bx q W (.mk k a o n ty res []) tp tc rp rc) (hu : TS W (fun z => w0.heap.size ≤ z ∧ z ≠ bx) u.args (.slice p u.args.length c)) :
    LS w0 R s rb bx q ((W.setCell ⟨bx, 6, none⟩ (.int .i64 u.kind)).setCell ⟨bx, 7, none⟩ (.slice p u.args.length c)) (.mk k a o n ty u []) tp tc p c :=
  h.set (((Below.refl _ W).setCell (p := ⟨bx, 6, none⟩) (Nat.le_refl _) _).setCell (p := ⟨bx, 7, none⟩) (Nat.le_refl _) _) (by rw [Go.Joins.block_setCell (Go.Joins.block_setCell h.box _) _]; rfl)
    ((setCell_stays _ _ _ _ _ (by simp)).trans (setCell_stays _ _ _ _ _ (by simp))) h.ty hu
theorem LS.new (h : LS w0 R s rb bx q W (.mk k a o n ty res []) tp tc rp rc) : NewTm W w0.heap.size (fun z => w0.heap.size ≤ z) (.mk k a o n ty res []) tp tc rp rc none 0 [] :=
  ⟨h.ty.mono (fun z hz _ => ⟨hz.1, by simp [Value.ownBlock]⟩), h.res.mono (fun z hz _ => ⟨hz.1, by simp [Value.ownBlock]⟩), RowM.start _ _ _⟩
end
theorem rec_steps {f : Nat → Option (Tm × Nat)} {s : List UInt8} {o : Option Nat} {a b : List UInt8} {ty res : Ty} {ts : List Tm} {o5 o7 o9 : Option Nat}
    (ha : ∀ i, o = some i → a = word s i) (hb : ∀ i, mustO [32] s (wordO s o) = some i → b = word s i)
    (h5 : typO s (mustO [58] s (wordO s (mustO [32] s (wordO s o)))) ty o5) (h7 : typO s (mustO [62] s o5) res o7) (h9 : argsP f s [41] (mustO [46] s o7) ts o9) :
    termO (pRec s f) o (.mk 9 ⟨a.toArray⟩ ⟨b.toArray⟩ 0 ty res ts) o9 := by
  cases o with
  | none =>
    have e5 : o5 = none := h5
    subst e5
    have e7 : o7 = none := h7
    subst e7
    exact h9
  | some i =>
    obtain rfl := ha i rfl
    simp only [wordO] at hb h5
    by_cases c1 : s[i + (word s i).length]? = some 32
    · rw [must_yes1 c1] at hb h5
      obtain rfl := hb _ rfl
      simp only [] at h5
      by_cases c2 : s[i + (word s i).length + 1 + (word s (i + (word s i).length + 1)).length]? = some 58
      · rw [must_yes1 c2] at h5
        rcases h5 with ⟨j, hp, rfl⟩ | ⟨hp, rfl⟩
        · by_cases c3 : s[j]? = some 62
          · rw [must_yes1 c3] at h7
            rcases h7 with ⟨j2, hp2, rfl⟩ | ⟨hp2, rfl⟩
            · by_cases c4 : s[j2]? = some 46
              · rw [must_yes1 c4] at h9
                rcases h9 with ⟨j3, hp3, rfl⟩ | ⟨hp3, rfl⟩
                · exact Or.inl ⟨j3, by simp [pRec, pRec2, c1, c2, hp, c3, hp2, c4, hp3], rfl⟩
                · exact Or.inr ⟨by simp [pRec, pRec2, c1, c2, hp, c3, hp2, c4, hp3], rfl⟩
              · rw [must_no1 c4] at h9
                exact Or.inr ⟨by simp [pRec, pRec2, c1, c2, hp, c3, hp2, c4], h9⟩
            · have e9 : o9 = none := h9
              exact Or.inr ⟨by simp [pRec, pRec2, c1, c2, hp, c3, hp2], e9⟩
          · rw [must_no1 c3] at h7
            have e7 : o7 = none := h7
            subst e7
            have e9 : o9 = none := h9
            exact Or.inr ⟨by simp [pRec, pRec2, c1, c2, hp, c3], e9⟩
        · have e7 : o7 = none := h7
          subst e7
          have e9 : o9 = none := h9
          exact Or.inr ⟨by simp [pRec, pRec2, c1, c2, hp], e9⟩
      · rw [must_no1 c2] at h5
        have e5 : o5 = none := h5
        subst e5
        have e7 : o7 = none := h7
        subst e7
        have e9 : o9 = none := h9
        exact Or.inr ⟨by simp [pRec, pRec2, c1, c2], e9⟩
    · rw [must_no1 c1] at h5
      have e5 : o5 = none := h5
      subst e5
      have e7 : o7 = none := h7
      subst e7
      have e9 : o9 = none := h9
      exact Or.inr ⟨by simp [pRec, c1], e9⟩
end Go.Proofs.YtjobmgbchpoheaaGreatDoor
namespace Go.Proofs.YtjobmgbchpoheaaGreatDoor
open Go Go.RowKit

theorem tm_fin {f' : Nat → Option (Tm × Nat)} {w W : World} {R : Nat} {s : ByteArray} {o o' : Option Nat} {t : Tm} {tp rp p : Option Addr} {tc rc c : Nat} (hg : w.grownBy W (some R)) (hR : R < w.heap.size) (hr : RdO W R s o') (hN : TM' W (fun z => w.heap.size + 1 ≤ z) t tp tc rp rc p c) (ho : termO f' o t o') :
    TermRet f' R s o w (.returned (tmV t tp tc rp rc p c)) (((((((((W.setCell ⟨w.heap.size, 0, none⟩ (.int .i64 t.kind)).setCell ⟨w.heap.size, 1, none⟩ (.string t.name)).setCell ⟨w.heap.size, 2, none⟩ (.string t.other)).setCell ⟨w.heap.size, 3, none⟩ (.int .i64 t.n)).setCell ⟨w.heap.size, 4, none⟩ (.int .i64 t.ty.kind)).setCell ⟨w.heap.size, 5, none⟩ (.slice tp t.ty.args.length tc)).setCell ⟨w.heap.size, 6, none⟩ (.int .i64 t.res.kind)).setCell ⟨w.heap.size, 7, none⟩ (.slice rp t.res.args.length rc)).setCell ⟨w.heap.size, 8, none⟩ (.slice p t.args.length c)) := by
  have hst := set9_stays W w.heap.size (.int .i64 t.kind) (.string t.name) (.string t.other) (.int .i64 t.n) (.int .i64 t.ty.kind) (.slice tp t.ty.args.length tc) (.int .i64 t.res.kind) (.slice rp t.res.args.length rc) (.slice p t.args.length c) (fun z => w.heap.size + 1 ≤ z) (fun h => by omega)
  obtain ⟨x1, x2⟩ := set9_out (.int .i64 t.kind) (.string t.name) (.string t.other) (.int .i64 t.n) (.int .i64 t.ty.kind) (.slice tp t.ty.args.length tc) (.int .i64 t.res.kind) (.slice rp t.res.args.length rc) (.slice p t.args.length c) hg hR hr
  exact ⟨_, t, o', rfl, ⟨tp, tc, rp, rc, p, c, rfl, (hN.stays hst).mono (fun z hz _ => by omega)⟩, ho, x1, x2⟩
set_option maxRecDepth 100000 in
set_option maxHeartbeats 2000000 in
theorem l6Rec_any {f : Nat → Option (Tm × Nat)} {R : Nat} {s : ByteArray} {D : Int} (hT : TermIs f R s D) (hs : s.size ≤ 1073741824) (o : Option Nat) (w : World) (hr : RdO w R s o) :
    Calls Tryz.prog 117 #[.pointer (some ⟨R, 0, none⟩), .int .i64 D] w (TermRet (pRec s.data.toList f) R s o w) := by
  obtain ⟨w0, hw0, hs0, hb0, r0⟩ := box_new w zeroC 29
  have hlt := hr.lt
  have HW := Lib.hid (wordO_any hs (hr.below hb0))
  have H0 := Lib.hid (And.intro hs0 (And.intro hb0 (And.intro r0 hlt)))
  have HT := Lib.hid hT
  clear hs0 hb0 r0 hr hT hlt
  go_enter Tryz.func117, Tryz.ntmps117
  go_wp2_with fail
  refine HW.out.mono ?_
  rintro e w1 ⟨a, rfl, hal, ha, hr1, hg1⟩
  obtain ⟨w2, hw2, hs2, hb2, r2⟩ := box_new w1 #[.int .i64 9, .string (bx a), .string ⟨#[]⟩, .int .i64 0, .int .i64 0, .slice none 0 0, .int .i64 0, .slice none 0 0, .slice none 0 0] 29
  have hL2 : LS w0 R s w.heap.size w1.heap.size (wordO s.data.toList o) w2 (.mk 9 (bx a) E0 0 Z0 Z0 []) none 0 none 0 := by
    obtain ⟨x1, x2, x3, x4⟩ := H0.out
    have hz1 := hg1.size
    exact ⟨hr1.below hb2, gb_more hg1 hz1 hb2, (hb2.block _ (by omega)).trans ((hg1.block _ (by omega) (fun e => by have := Option.some.inj e; omega)).trans x3), r2, .nil _ _, .nil _ _, by omega, by omega, by omega, hz1⟩
  have HA := Lib.hid ha
  have HL2 := Lib.hid hL2
  have HQ := Lib.hid (mustO_any (o := wordO s.data.toList o) [32] (by decide) hs hL2.rd)
  have HWW := Lib.hid hw2
  clear ha hr1 hg1 hs2 hb2 r2 hL2 hw2
  go_wp2_with fail
  rw [HWW.out]
  refine HQ.out.mono ?_
  rintro e w3 ⟨rfl, hr3, hg3⟩
  have HL3 := Lib.hid (HL2.out.step hr3 hg3)
  have HW3 := Lib.hid (wordO_any hs hr3)
  clear hr3 hg3
  go_wp2_with fail
  refine HW3.out.mono ?_
  rintro e w4 ⟨b, rfl, hbl, hb, hr4, hg4⟩
  have hL4 := HL3.out.step hr4 hg4
  have g0 := cell_of_blk hL4.box 0
  have g1 := cell_of_blk hL4.box 1
  have g2 := cell_of_blk hL4.box 2
  have g3 := cell_of_blk hL4.box 3
  have g4 := cell_of_blk hL4.box 4
  have g5 := cell_of_blk hL4.box 5
  have g6 := cell_of_blk hL4.box 6
  have g7 := cell_of_blk hL4.box 7
  have g8 := cell_of_blk hL4.box 8
  have gz := unfrozen_of_blk hL4.box
  simp only [tmC, List.getElem?_toArray, List.getElem?_cons_zero, List.getElem?_cons_succ, Tm.kind, Tm.name, Tm.other, Tm.n, Tm.ty, Tm.res, Tm.args] at g0 g1 g2 g3 g4 g5 g6 g7 g8
  obtain ⟨w5, hw5⟩ : ∃ w5, w4.setCell ⟨w1.heap.size, 2, none⟩ (.string (bx b)) = w5 := ⟨_, rfl⟩
  have hL5 := hL4.setOther (bx b)
  rw [hw5] at hL5
  have HB := Lib.hid hb
  have HL5 := Lib.hid hL5
  have HQ5 := Lib.hid (mustO_any [58] (by decide) hs hL5.rd)
  clear hb hr4 hg4 hL4 hL5
  go_wp2_with fail
  refine HQ5.out.mono ?_
  rintro e w6 ⟨rfl, hr6, hg6⟩
  have HL6 := Lib.hid (HL5.out.step hr6 hg6)
  have HT6 := Lib.hid (typO_any hs hr6)
  clear hr6 hg6 g0 g1 g2 g3 g4 g5 g6 g7 g8 gz
  go_wp2_with fail
  refine HT6.out.mono ?_
  rintro e w7 ⟨v7, ty, o7, rfl, ⟨sv7, rfl, hT7⟩, ho7, hr7, hg7⟩
  obtain ⟨tp, tc, rfl⟩ := hT7.form
  have hL7 := HL6.out.step hr7 hg7
  have h0 := cell_of_blk hL7.box 0
  have h1 := cell_of_blk hL7.box 1
  have h2 := cell_of_blk hL7.box 2
  have h3 := cell_of_blk hL7.box 3
  have h4 := cell_of_blk hL7.box 4
  have h5 := cell_of_blk hL7.box 5
  have h6 := cell_of_blk hL7.box 6
  have h7 := cell_of_blk hL7.box 7
  have h8 := cell_of_blk hL7.box 8
  have hz := unfrozen_of_blk hL7.box
  simp only [tmC, List.getElem?_toArray, List.getElem?_cons_zero, List.getElem?_cons_succ, Tm.kind, Tm.name, Tm.other, Tm.n, Tm.ty, Tm.res, Tm.args] at h0 h1 h2 h3 h4 h5 h6 h7 h8
  obtain ⟨w8, hw8⟩ : ∃ w8, (w7.setCell ⟨w1.heap.size, 4, none⟩ (.int .i64 ty.kind)).setCell ⟨w1.heap.size, 5, none⟩ (.slice tp ty.args.length tc) = w8 := ⟨_, rfl⟩
  have hL8 := hL7.setTy (hT7.mono (C' := fun z => w0.heap.size ≤ z ∧ z ≠ w1.heap.size) (fun z hz _ => by have := HL6.out.bxlt; have := HL6.out.hb; omega))
  rw [hw8] at hL8
  have HO7 := Lib.hid ho7
  have HL8 := Lib.hid hL8
  have HQ8 := Lib.hid (mustO_any [62] (by decide) hs hL8.rd)
  clear ho7 hr7 hg7 hL7 hL8 hT7
  go_wp2_with fail
  refine HQ8.out.mono ?_
  rintro e w9 ⟨rfl, hr9, hg9⟩
  have HL9 := Lib.hid (HL8.out.step hr9 hg9)
  have HT9 := Lib.hid (typO_any hs hr9)
  clear hr9 hg9 h0 h1 h2 h3 h4 h5 h6 h7 h8 hz
  go_wp2_with fail
  refine HT9.out.mono ?_
  rintro e w10 ⟨v10, res, o10, rfl, ⟨sv10, rfl, hT10⟩, ho10, hr10, hg10⟩
  obtain ⟨rp, rc, rfl⟩ := hT10.form
  have hL10 := HL9.out.step hr10 hg10
  have k0 := cell_of_blk hL10.box 0
  have k1 := cell_of_blk hL10.box 1
  have k2 := cell_of_blk hL10.box 2
  have k3 := cell_of_blk hL10.box 3
  have k4 := cell_of_blk hL10.box 4
  have k5 := cell_of_blk hL10.box 5
  have k6 := cell_of_blk hL10.box 6
  have k7 := cell_of_blk hL10.box 7
  have k8 := cell_of_blk hL10.box 8
  have kz := unfrozen_of_blk hL10.box
  simp only [tmC, List.getElem?_toArray, List.getElem?_cons_zero, List.getElem?_cons_succ, Tm.kind, Tm.name, Tm.other, Tm.n, Tm.ty, Tm.res, Tm.args] at k0 k1 k2 k3 k4 k5 k6 k7 k8
  obtain ⟨w11, hw11⟩ : ∃ w11, (w10.setCell ⟨w1.heap.size, 6, none⟩ (.int .i64 res.kind)).setCell ⟨w1.heap.size, 7, none⟩ (.slice rp res.args.length rc) = w11 := ⟨_, rfl⟩
  have hL11 := hL10.setRes (hT10.mono (C' := fun z => w0.heap.size ≤ z ∧ z ≠ w1.heap.size) (fun z hz _ => by have := HL9.out.bxlt; have := HL9.out.hb; omega))
  rw [hw11] at hL11
  have HO10 := Lib.hid ho10
  have HL11 := Lib.hid hL11
  have HQ11 := Lib.hid (mustO_any [46] (by decide) hs hL11.rd)
  clear ho10 hr10 hg10 hL10 hL11 hT10
  go_wp2_with fail
  refine HQ11.out.mono ?_
  rintro e w12 ⟨rfl, hr12, hg12⟩
  have hL12 := HL11.out.step hr12 hg12
  have HAR := Lib.hid (l6Args_any HT.out hs 1 (by decide) 9 (bx a) (bx b) 0 ty res [] (by decide) tp tc rp rc none 0 [] w0 w12 _ hr12 hL12.grown (fun z => w0.heap.size ≤ z) hL12.hR (fun z hz e => by have := hL12.hR; have : w0.heap.size ≤ z := hz; omega) (fun _ hz => hz) hL12.new)
  clear k0 k1 k2 k3 k4 k5 k6 k7 k8 kz
  have l0 := cell_of_blk hL12.box 0
  have l1 := cell_of_blk hL12.box 1
  have l2 := cell_of_blk hL12.box 2
  have l3 := cell_of_blk hL12.box 3
  have l4 := cell_of_blk hL12.box 4
  have l5 := cell_of_blk hL12.box 5
  have l6 := cell_of_blk hL12.box 6
  have l7 := cell_of_blk hL12.box 7
  have l8 := cell_of_blk hL12.box 8
  have lz := unfrozen_of_blk hL12.box
  simp only [tmC, List.getElem?_toArray, List.getElem?_cons_zero, List.getElem?_cons_succ, Tm.kind, Tm.name, Tm.other, Tm.n, Tm.ty, Tm.res, Tm.args] at l0 l1 l2 l3 l4 l5 l6 l7 l8
  clear hr12 hg12 hL12
  go_wp2_with fail
  refine HAR.out.mono ?_
  rintro e w13 ⟨m, ts, o13, tp', tc', rp', rc', p', c', xs', hm, hend, har, rfl, hN, hr13, hg13⟩
  have hg := grownBy_trans (gb_below H0.out.2.1 (some R)) hg13
  have ho13 := (hg13.block w.heap.size (by have := H0.out.1; omega) (fun e => by have := Option.some.inj e; have := H0.out.2.2.2; omega)).trans H0.out.2.2.1
  have r0 := cell_of_blk ho13 0
  have r1 := cell_of_blk ho13 1
  have r2 := cell_of_blk ho13 2
  have r3 := cell_of_blk ho13 3
  have r4 := cell_of_blk ho13 4
  have r5 := cell_of_blk ho13 5
  have r6 := cell_of_blk ho13 6
  have r7 := cell_of_blk ho13 7
  have r8 := cell_of_blk ho13 8
  have rz := unfrozen_of_blk ho13
  simp only [List.getElem?_toArray, List.getElem?_cons_zero, List.getElem?_cons_succ] at r0 r1 r2 r3 r4 r5 r6 r7 r8
  have HARG := Lib.hid (args_pts (s := s.data.toList) (N := 1) (by decide) hm hend har)
  have HX := Lib.hid (And.intro hg (And.intro hr13 hN))
  clear hg hr13 hN hg13 ho13 har hend hm l0 l1 l2 l3 l4 l5 l6 l7 l8 lz
  go_wp2_with fail
  refine bodyPost_ret (v := tmV (.mk 9 (bx a) (bx b) 0 ty res ts) tp' tc' rp' rc' p' c') ?_ rfl ?_
  · rw [results_cell1 rfl]
    go_simp
    all_goals (repeat' apply And.intro) <;> rfl
  · obtain ⟨x1, x2, x3⟩ := HX.out
    exact tm_fin x1 H0.out.2.2.2 x2 (x3.tm.mono (fun z hz _ => by have := H0.out.1; omega)) (rec_steps HA.out HB.out HO7.out HO10.out HARG.out)
end Go.Proofs.YtjobmgbchpoheaaGreatDoor
