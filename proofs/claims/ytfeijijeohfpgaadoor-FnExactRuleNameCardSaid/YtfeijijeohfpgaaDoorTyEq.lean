/-
  The contract of the laws' eqTypeS and eqType: whether two types are the same.
-/
import Derived.Test.YtfeijijeohfpgaaDoorProg
import Derived.Test.YtfeijijeohfpgaaDoorTy
import Derived.Deep.RegionHeld3
namespace Go.Proofs.YtfeijijeohfpgaaDoor
open Go Go.RowKit

def BoolRet (P : Bool → Prop) (w : World) (e : Ending) (w' : World) : Prop := ∃ b : Bool, P b ∧ e = .returned (.bool b) ∧ Below w.heap.size w w'

theorem Ty.ext {a b : Ty} (h1 : a.kind = b.kind) (h2 : a.args = b.args) : a = b := by
  cases a; cases b; simp at h1 h2; rw [h1, h2]

set_option maxRecDepth 100000 in
set_option maxHeartbeats 1000000 in
theorem eqT_of (k k2 : Int) (p p2 : Option Addr) (l c l2 c2 : Nat) (Q : Prop) (w : World)
    (h : ∀ w', Below w.heap.size w w' → Calls Tryd.prog 63 #[.slice p l c, .slice p2 l2 c2] w' (BoolRet (fun b => b = true ↔ Q) w')) :
    Calls Tryd.prog 37 #[.agg #[.int .i64 k, .slice p l c], .agg #[.int .i64 k2, .slice p2 l2 c2]] w (BoolRet (fun b => b = true ↔ (k = k2 ∧ Q)) w) := by
  have HH := Lib.hid h
  have HB := Lib.hid (((Below.refl w.heap.size w).alloc (Nat.le_refl _) (Obj.cells #[.int .i64 k, .slice p l c] 32)).alloc (by simp) (Obj.cells #[.int .i64 k2, .slice p2 l2 c2] 32))
  clear h
  go_enter Tryd.func37, Tryd.ntmps37
  by_cases hk : k = k2
  · subst hk
    go_wp2_with fail
    refine (HH.out _ HB.out).mono ?_
    rintro e w1 ⟨r, hr, rfl, hb1⟩
    have HR := Lib.hid hr
    have HB1 := Lib.hid (HB.out.trans (hb1.mono HB.out.size))
    clear hr hb1
    cases r with
    | true =>
      go_wp2_with fail
      go_ret
      exact ⟨true, by simpa using HR.out, rfl, HB1.out⟩
    | false =>
      go_wp2_with fail
      go_ret
      exact ⟨false, by simpa using HR.out, rfl, HB1.out⟩
  · go_wp2_with fail
    go_ret
    exact ⟨false, by simp [hk], rfl, HB.out⟩

theorem keep4 {w W w1 : World} {p1 p2 p3 p4 : Addr} {v1 v2 v3 v4 : Value} (hb1 : Below W.heap.size W w1) (h : W.cell? p1 = some v1 ∧ W.cell? p2 = some v2 ∧ W.cell? p3 = some v3 ∧ W.cell? p4 = some v4 ∧ Below w.heap.size w W) :
    w1.cell? p1 = some v1 ∧ w1.cell? p2 = some v2 ∧ w1.cell? p3 = some v3 ∧ w1.cell? p4 = some v4 ∧ Below w.heap.size w w1 :=
  ⟨(hb1.cell (World.block_lt_of_cell? W _ h.1)).trans h.1, (hb1.cell (World.block_lt_of_cell? W _ h.2.1)).trans h.2.1, (hb1.cell (World.block_lt_of_cell? W _ h.2.2.1)).trans h.2.2.1, (hb1.cell (World.block_lt_of_cell? W _ h.2.2.2.1)).trans h.2.2.2.1, h.2.2.2.2.trans (hb1.mono h.2.2.2.2.size)⟩

theorem take_eq_next {ts us : List Ty} {k : Nat} (h : ts.take k = us.take k) (h1 : k < ts.length) (h2 : k < us.length) (he : ts[k].kind = us[k].kind ∧ ts[k].args = us[k].args) : ts.take (k + 1) = us.take (k + 1) := by
  rw [List.take_add_one, List.take_add_one, h, List.getElem?_eq_getElem h1, List.getElem?_eq_getElem h2, Ty.ext he.1 he.2]
theorem ne_of_at {ts us : List Ty} {k : Nat} (h1 : k < ts.length) (h2 : k < us.length) (hn : ¬ (ts[k].kind = us[k].kind ∧ ts[k].args = us[k].args)) : ts ≠ us := by
  intro e; subst e; exact hn ⟨rfl, rfl⟩

set_option maxRecDepth 100000 in
set_option maxHeartbeats 1000000 in
theorem eqS_any {w0 : World} {C C' : Nat → Prop} {ts : List Ty} {v : Value} (h : TS w0 C ts v) : ∀ (w : World) (us : List Ty) (u : Value), Stays C w0 w → TS w C' us u →
    Calls Tryd.prog 63 #[v, u] w (BoolRet (fun b => b = true ↔ ts = us) w) := by
  induction h with
  | nil a c =>
    intro w us u hst hu
    obtain ⟨p, d, rfl⟩ := hu.form
    have hlen := hu.len
    clear hu
    go_enter Tryd.func63, Tryd.ntmps63
    by_cases hz : us.length = 0
    · obtain rfl := List.eq_nil_of_length_eq_zero hz
      simp only [List.length_nil]
      go_wp2_with fail
      go_loop [5] (fun i => i = .int .i64 0) (fun _ => 0)
      case atStart => exact rfl
      case round =>
        obtain rfl := hrel
        go_wp2_with fail
        go_ret
        exact ⟨true, by simp, rfl, Below.refl _ _⟩
    · have hne : ¬ ([] = us) := fun e => hz (by rw [← e]; rfl)
      have HN := Lib.hid hne
      clear hne
      go_wp2_with fail
      go_ret
      exact ⟨false, by simpa using HN.out, rfl, Below.refl _ _⟩
  | @cons ts b o c S h1 hc hm hC hb hk hs hr ih =>
    intro w us u hst hu
    have HIH := Lib.hid ih
    have HST := Lib.hid hst
    have HK := Lib.hid (fun j x (e : ts[j]? = some x) (w' : World) (hw : Stays C w0 w') => (World.cell?_of_block (w := w0) (a := ⟨b, o + j * 2, none⟩) (hw.2 b hC hb)).trans (hk j x e))
    have HS := Lib.hid (fun j x (e : ts[j]? = some x) (w' : World) (hw : Stays C w0 w') => (World.cell?_of_block (w := w0) (a := ⟨b, o + j * 2 + 1, none⟩) (hw.2 b hC hb)).trans (hs j x e))
    have HF := Lib.hid (fun j x (e : ts[j]? = some x) => (hr j x e).form)
    clear hk hs hr ih hst hC hb
    by_cases hlen : ts.length = us.length
    · cases hu with
      | nil a d =>
        have h0 : ts.length = 0 := hlen
        omega
      | @cons us b2 o2 d S2 h12 hc2 hm2 hC2 hb2 hk2 hs2 hr2 =>
        have HT2 := Lib.hid (fun (w' : World) (hw : Below w.heap.size w w') => TS.keep (.cons S2 h12 hc2 hm2 hC2 hb2 hk2 hs2 hr2) hw)
        have HK2 := Lib.hid hk2
        have HS2 := Lib.hid hs2
        have HR2 := Lib.hid hr2
        clear hk2 hs2 hr2 hC2
        have HL := Lib.hid hlen
        go_enter Tryd.func63, Tryd.ntmps63
        rw [← hlen]
        clear hlen
        go_wp2_with fail
        go_loopw [5] (fun i wr => ∃ (k : Nat), k ≤ ts.length ∧ i = .int .i64 k ∧ ts.take k = us.take k ∧ Below w.heap.size w wr) (fun i _ => ts.length - (intOf i).toNat)
        case atStart => exact ⟨0, Nat.zero_le _, rfl, by simp, Below.refl _ _⟩
        case round =>
          obtain ⟨k, hk, rfl, htk, hbr⟩ := hrel
          have HTK := Lib.hid htk
          have HB := Lib.hid hbr
          have HSR := Lib.hid (HST.out.trans (Stays.of_below (C := C) hbr))
          clear htk
          by_cases hlk : k < ts.length
          · have hlk2 : k < us.length := by rw [← HL.out]; exact hlk
            have e := List.getElem?_eq_getElem hlk
            have e2 := List.getElem?_eq_getElem hlk2
            have c1 := HK.out k _ e wr HSR.out
            have c2 := HS.out k _ e wr HSR.out
            have c3 := (hbr.cell (p := ⟨b2, o2 + k * 2, none⟩) hb2).trans (HK2.out k _ e2)
            have c4 := (hbr.cell (p := ⟨b2, o2 + k * 2 + 1, none⟩) hb2).trans (HS2.out k _ e2)
            obtain ⟨p, q, hf⟩ := HF.out k _ e
            obtain ⟨p2, q2, hf2⟩ := (HR2.out k _ e2).form
            have HC := Lib.hid (fun (W : World) (hW : Below w.heap.size w W) => eqT_of ts[k].kind us[k].kind p p2 _ q _ q2 (ts[k].args = us[k].args) W (fun w' hw' => by
              have hw2 := hW.trans (hw'.mono hW.size)
              have hh := HIH.out k _ e w' _ _ (HST.out.trans (Stays.of_below hw2)) ((HR2.out k _ e2).keep hw2)
              rw [hf, hf2] at hh
              exact hh))
            rw [hf] at c2
            rw [hf2] at c4
            have i0 : (0 : Int) ≤ (k : Int) := Int.natCast_nonneg _
            have i1 : (k : Int) < (ts.length : Int) := by omega
            clear e e2 hf hf2
            go_wp2_with fail
            go_region_held3 (fun w' => w'.cell? ⟨b, o + k * 2, none⟩ = some (.int .i64 ts[k].kind) ∧ w'.cell? ⟨b, o + k * 2 + 1, none⟩ = some (.slice p ts[k].args.length q) ∧ w'.cell? ⟨b2, o2 + k * 2, none⟩ = some (.int .i64 us[k].kind) ∧ w'.cell? ⟨b2, o2 + k * 2 + 1, none⟩ = some (.slice p2 us[k].args.length q2) ∧ Below w.heap.size w w')
              (first
                | (go_keep; done)
                | exact ⟨by simp [*], by simp [*], by simp [*], by simp [*], hbr.drew⟩
                | exact keep4 hb1 (by assumption))
              (first | (go_at_call 37; refine (HC.out _ hbr.drew).mono ?_; rintro e w1 ⟨r, hr, rfl, hb1⟩))
            rename_i hH
            have HB1 := Lib.hid hH.2.2.2.2
            have HR := Lib.hid hr
            clear hH hb1 c1 c2 c3 c4 hr
            cases r with
            | true =>
              go_wp2_with fail
              go_roundw
              case rel => exact ⟨k + 1, by omega, by go_num, take_eq_next HTK.out hlk hlk2 (HR.out.1 rfl), HB1.out⟩
              case measure => simp [intOf]; omega
            | false =>
              go_wp2_with fail
              go_ret
              exact ⟨false, by simpa using ne_of_at hlk hlk2 (fun e => by simpa using HR.out.2 e), rfl, HB1.out⟩
          · obtain rfl : k = ts.length := by omega
            have htk : ts = us := by
              have := HTK.out
              rw [List.take_length, HL.out, List.take_length] at this
              exact this
            have HE := Lib.hid htk
            clear htk
            go_wp2_with fail
            go_ret
            exact ⟨true, by simpa using HE.out, rfl, HB.out⟩
    · have hne : ¬ (ts = us) := fun e => hlen (by rw [← e])
      obtain ⟨p, d, rfl⟩ := hu.form
      have hlen2 := hu.len
      have HN := Lib.hid hne
      clear hne hu
      go_enter Tryd.func63, Tryd.ntmps63
      go_wp2_with fail
      go_ret
      exact ⟨false, by simpa using HN.out, rfl, Below.refl _ _⟩
/-- THE LAWS' eqType, AT ANY TWO TYPES. -/
theorem eqT_any {C C' : Nat → Prop} {t u : Ty} {v x : Value} {w : World} (h : TT w C t v) (h2 : TT w C' u x) :
    Calls Tryd.prog 37 #[v, x] w (BoolRet (fun b => b = true ↔ t = u) w) := by
  obtain ⟨s, rfl, h⟩ := h
  obtain ⟨p, c, rfl⟩ := h.form
  obtain ⟨s2, rfl, h2⟩ := h2
  obtain ⟨p2, c2, rfl⟩ := h2.form
  refine (eqT_of t.kind u.kind p p2 _ c _ c2 (t.args = u.args) w (fun w' hb => eqS_any h w' _ _ (.of_below hb) (h2.keep hb))).mono ?_
  rintro e w' ⟨b, hb, he, hw⟩
  exact ⟨b, hb.trans ⟨fun h => Ty.ext h.1 h.2, fun h => by rw [h]; exact ⟨rfl, rfl⟩⟩, he, hw⟩
#print axioms eqT_any
end Go.Proofs.YtfeijijeohfpgaaDoor

