/-
  The contract of the model's EqualType.
-/
import Derived.Test.YtjobmgbchpoheaaSpecTy3
import Derived.Test.YtjobmgbchpoheaaTyInd
namespace Go.Proofs.Ytjobmgbchpoheaa
open Go Go.RowKit

theorem keep6 {w W w1 : World} {p1 p2 p3 p4 p5 p6 : Addr} {v1 v2 v3 v4 v5 v6 : Value} (hb1 : Below W.heap.size W w1) (h : W.cell? p1 = some v1 ∧ W.cell? p2 = some v2 ∧ W.cell? p3 = some v3 ∧ W.cell? p4 = some v4 ∧ W.cell? p5 = some v5 ∧ W.cell? p6 = some v6 ∧ Below w.heap.size w W) :
    w1.cell? p1 = some v1 ∧ w1.cell? p2 = some v2 ∧ w1.cell? p3 = some v3 ∧ w1.cell? p4 = some v4 ∧ w1.cell? p5 = some v5 ∧ w1.cell? p6 = some v6 ∧ Below w.heap.size w w1 := by
  have k : ∀ {p : Addr} {v : Value}, W.cell? p = some v → w1.cell? p = some v := fun h => (hb1.cell (World.block_lt_of_cell? W _ h)).trans h
  exact ⟨k h.1, k h.2.1, k h.2.2.1, k h.2.2.2.1, k h.2.2.2.2.1, k h.2.2.2.2.2.1, h.2.2.2.2.2.2.trans (hb1.mono h.2.2.2.2.2.2.size)⟩

set_option maxRecDepth 100000 in
set_option maxHeartbeats 2000000 in
theorem eqSp_any {w0 : World} {C C' : Nat → Prop} {ts : List Ty} {v : Value} (h : TS w0 C ts v) : ∀ (w : World) (q q2 : Int) (us : List Ty) (u : Value), Stays C w0 w → TS w C' us u →
    Calls Try.prog 14 #[.agg #[.int .i64 q, v], .agg #[.int .i64 q2, u]] w (BoolRet (fun b => b = true ↔ (q = q2 ∧ ts = us)) w) := by
  refine TS.ind (motive := fun ts v => ∀ (w : World) (q q2 : Int) (us : List Ty) (u : Value), Stays C w0 w → TS w C' us u →
    Calls Try.prog 14 #[.agg #[.int .i64 q, v], .agg #[.int .i64 q2, u]] w (BoolRet (fun b => b = true ↔ (q = q2 ∧ ts = us)) w)) ?_ h
  intro ts p c hl H w q q2 us u hst hu
  obtain ⟨p2, c2, rfl⟩ := hu.form
  have hl2 := hu.len
  have HH := Lib.hid H
  have HST := Lib.hid hst
  have HU := Lib.hid hu
  clear H hst hu
  have hb0 := ((Below.refl w.heap.size w).alloc (Nat.le_refl _) (Obj.cells #[.int .i64 q, .slice p ts.length c] 26)).alloc (by simp) (Obj.cells #[.int .i64 q2, .slice p2 us.length c2] 26)
  obtain ⟨wl, hwl⟩ : ∃ wl, (w.alloc (.cells #[.int .i64 q, .slice p ts.length c] 26)).alloc (.cells #[.int .i64 q2, .slice p2 us.length c2] 26) = wl := ⟨_, rfl⟩
  have k0 : wl.heap[w.heap.size]? = some (.cells #[.int .i64 q, .slice p ts.length c] 26 (0, 0)) := by
    rw [← hwl, Below.heap_alloc _ _ _ (by simp)]; exact blk_new _ _
  have k1 : wl.heap[w.heap.size + 1]? = some (.cells #[.int .i64 q2, .slice p2 us.length c2] 26 (0, 0)) := by
    rw [← hwl]
    have := blk_new (w.alloc (.cells #[.int .i64 q, .slice p ts.length c] 26)) (.cells #[.int .i64 q2, .slice p2 us.length c2] 26)
    rwa [World.size_alloc] at this
  have hwsz : wl.heap.size = w.heap.size + 2 := by rw [← hwl]; simp
  rw [hwl] at hb0
  have HB0 := Lib.hid hb0
  have HK0 := Lib.hid k0
  have HK1 := Lib.hid k1
  have HWL := Lib.hid hwl
  clear hb0 k0 k1 hwl
  go_enter Try.func14, Try.ntmps14
  by_cases hq : q = q2
  · subst hq
    by_cases hlen : ts.length = us.length
    · have HL := Lib.hid hlen
      rw [hlen] at hl ⊢
      clear hlen hl2
      go_wp2_with fail
      go_loopw [5] (fun i wr => ∃ (k : Nat), k ≤ us.length ∧ i = .int .i64 k ∧ ts.take k = us.take k ∧ Below wl.heap.size wl wr) (fun i _ => us.length - (intOf i).toNat)
      case atStart =>
        have e := HWL.out
        rw [HL.out] at e
        exact ⟨0, Nat.zero_le _, rfl, by simp, by rw [e]; exact Below.refl _ _⟩
      case round =>
        obtain ⟨k, hk, rfl, htk, hbr⟩ := hrel
        have HTK := Lib.hid htk
        have HBW := Lib.hid hbr
        have hbr' : Below w.heap.size w wr := HB0.out.trans (hbr.mono HB0.out.size)
        have d0 := cell_of_blk ((hbr.block _ (by omega)).trans HK0.out) 1
        have d1 := cell_of_blk ((hbr.block _ (by omega)).trans HK1.out) 1
        simp only [List.getElem?_toArray, List.getElem?_cons_zero, List.getElem?_cons_succ] at d0 d1
        rw [HL.out] at d0
        have HB := Lib.hid hbr'
        clear htk hbr
        by_cases hlk2 : k < us.length
        · have hlk : k < ts.length := by rw [HL.out]; exact hlk2
          obtain ⟨b, o, p', c', rfl, hcs, hT, hI⟩ := HH.out k _ (List.getElem?_eq_getElem hlk)
          obtain ⟨b2, o2, p2', c2', rfl, hcs2, hT2⟩ := HU.out.at k _ (List.getElem?_eq_getElem hlk2)
          obtain ⟨c1, c2x⟩ := hcs wr (HST.out.trans (Stays.of_below hbr'))
          obtain ⟨c3, c4⟩ := hcs2 wr (Stays.of_below hbr')
          have HC := Lib.hid (fun (W : World) (hW : Below w.heap.size w W) => hI W ts[k].kind us[k].kind _ _ (HST.out.trans (Stays.of_below hW)) (hT2.keep hW))
          have i0 : (0 : Int) ≤ (k : Int) := Int.natCast_nonneg _
          have i1 : (k : Int) < (us.length : Int) := by omega
          clear hcs hcs2 hT hT2 hI
          go_wp2_with fail
          go_region_held3 (fun w' => w'.cell? ⟨w.heap.size, 1, none⟩ = some (.slice (some ⟨b, o, none⟩) us.length c) ∧ w'.cell? ⟨w.heap.size + 1, 1, none⟩ = some (.slice (some ⟨b2, o2, none⟩) us.length c2) ∧ w'.cell? ⟨b, o + k * 2, none⟩ = some (.int .i64 ts[k].kind) ∧ w'.cell? ⟨b, o + k * 2 + 1, none⟩ = some (.slice p' ts[k].args.length c') ∧ w'.cell? ⟨b2, o2 + k * 2, none⟩ = some (.int .i64 us[k].kind) ∧ w'.cell? ⟨b2, o2 + k * 2 + 1, none⟩ = some (.slice p2' us[k].args.length c2') ∧ Below w.heap.size w w')
            (first
              | (go_keep; done)
              | exact ⟨by simp [*], by simp [*], by simp [*], by simp [*], by simp [*], by simp [*], hbr'.drew⟩
              | exact keep6 hb1 (by assumption))
            (first | (go_at_call 14; refine (HC.out _ hbr'.drew).mono ?_; rintro e w1 ⟨r, hr, rfl, hb1⟩))
          rename_i hH
          have HB1 := Lib.hid (HBW.out.trans ((Below.refl wr.heap.size wr).drew.trans hb1 |>.mono HBW.out.size))
          have HR := Lib.hid hr
          clear hH hb1 c1 c2x c3 c4 hr d0 d1
          cases r with
          | true =>
            go_wp2_with fail
            go_roundw
            case rel => exact ⟨k + 1, by omega, by go_num, take_eq_next HTK.out hlk hlk2 (HR.out.1 rfl), HB1.out⟩
            case measure => simp [intOf]; omega
          | false =>
            go_wp2_with fail
            go_ret
            exact ⟨false, by simpa using ne_of_at hlk hlk2 (fun e => by simpa using HR.out.2 e), rfl, HB0.out.trans (HB1.out.mono HB0.out.size)⟩
        · obtain rfl : k = us.length := by omega
          have htk : ts = us := by
            have := HTK.out
            rw [← HL.out, List.take_length, HL.out, List.take_length] at this
            exact this
          have HE := Lib.hid htk
          clear htk
          go_wp2_with fail
          go_ret
          exact ⟨true, by simpa using HE.out, rfl, HB.out⟩
    · have HN := Lib.hid (fun e => hlen (by rw [e]) : ¬ ts = us)
      have HBx := HB0
      rw [← HWL.out] at HBx
      go_wp2_with fail
      go_ret
      exact ⟨false, by simpa using HN.out, rfl, HBx.out⟩
  · have HN := Lib.hid hq
    have HBx := HB0
    rw [← HWL.out] at HBx
    go_wp2_with fail
    go_ret
    exact ⟨false, by simpa using fun e => absurd e HN.out, rfl, HBx.out⟩
/-- THE MODEL's EqualType, AT ANY TWO TYPES. -/
theorem eqSpT_any {C C' : Nat → Prop} {t u : Ty} {v x : Value} {w : World} (h : TT w C t v) (h2 : TT w C' u x) :
    Calls Try.prog 14 #[v, x] w (BoolRet (fun b => b = true ↔ t = u) w) := by
  obtain ⟨s, rfl, h⟩ := h
  obtain ⟨s2, rfl, h2⟩ := h2
  refine (eqSp_any h w t.kind u.kind u.args s2 (Stays.refl _ _) h2).mono ?_
  rintro e w' ⟨b, hb, he, hw⟩
  exact ⟨b, hb.trans ⟨fun h => Ty.ext h.1 h.2, fun h => by rw [h]; exact ⟨rfl, rfl⟩⟩, he, hw⟩
#print axioms eqSpT_any
end Go.Proofs.Ytjobmgbchpoheaa

