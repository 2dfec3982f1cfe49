/-
  Several texts of the proof in one (each says below what it holds): EqT EqM Big.
-/
import Derived.Test.YtjobmgbchpoheaaGreatDoorPB43
import Derived.Test.YtjobmgbchpoheaaGreatDoorPB35
import Derived.Test.YtjobmgbchpoheaaGreatDoorPB1
import Derived.Test.YtjobmgbchpoheaaGreatDoorProg
namespace Go.Proofs.YtjobmgbchpoheaaGreatDoor
open Go Go.RowKit

set_option maxRecDepth 100000 in
theorem eqKind_any {C : Nat → Prop} {x y : Ty} {v1 v2 : Value} {w : World} (h1 : TT w C x v1) (h2 : TT w C y v2) : Calls Tryz.prog 111 #[v1, v2] w (BoolRet (fun b => b = true ↔ x.kind = y.kind) w) := by
  obtain ⟨s1, rfl, hS1⟩ := h1
  obtain ⟨p1, c1, rfl⟩ := hS1.form
  obtain ⟨s2, rfl, hS2⟩ := h2
  obtain ⟨p2, c2, rfl⟩ := hS2.form
  clear hS1 hS2
  go_enter Tryz.func111, Tryz.ntmps111
  go_wp2_with fail
  go_ret
  exact ⟨_, by simp, rfl, ((Below.refl w.heap.size w).alloc (Nat.le_refl _) _).alloc (by simp) _⟩

set_option maxRecDepth 100000 in
theorem eqI_any {C C' : Nat → Prop} {t u : Ty} {v x : Value} {w : World} (h : TT w C t v) (h2 : TT w C' u x) (hn : nodesS t.args ≤ 2097152) :
    Calls Tryz.prog 66 #[v, x] w (BoolRet (fun b => b = true ↔ t = u) w) := by
  have hn' : t.nodes ≤ 2097153 := by have := t.nodes_eq; omega
  obtain ⟨s1, rfl, hS1⟩ := h
  obtain ⟨p1, c1, rfl⟩ := hS1.form
  obtain ⟨s2, rfl, hS2⟩ := h2
  obtain ⟨p2, c2, rfl⟩ := hS2.form
  have HA := Lib.hid (fun (W : World) (hb : Below w.heap.size w W) => eqTreesT_any (C := fun _ => True) (ntT_mk ((hS1.stays (.of_below hb)).mono (C' := fun _ => True) (fun _ _ _ => trivial))) (ntT_mk ((hS2.stays (.of_below hb)).mono (C' := fun _ => True) (fun _ _ _ => trivial))) hn' (fun x y => x.kind = y.kind) (fun _ => True) (fun _ _ _ _ => trivial) trivial
    (fun x y => ⟨fun e => by rw [e]; exact ⟨rfl, rfl⟩, fun e => Ty.ext e.1 e.2⟩) (fun x y v1 v2 W C _ h1 h2 => eqKind_any h1 h2))
  clear hS1 hS2
  go_enter Tryz.func66, Tryz.ntmps66
  go_wp2_with fail
  refine (HA.out _ (((Below.refl w.heap.size w).alloc (Nat.le_refl _) _).alloc (by simp) _)).mono ?_
  rintro e w1 ⟨r, hr, rfl, hb⟩
  have HR := Lib.hid hr
  have HB := Lib.hid hb
  clear hr hb
  go_wp2_with fail
  go_ret
  exact ⟨r, HR.out, rfl, (((Below.refl w.heap.size w).alloc (Nat.le_refl _) _).alloc (by simp) _).trans (HB.out.mono (by simp; omega))⟩
end Go.Proofs.YtjobmgbchpoheaaGreatDoor
namespace Go.Proofs.YtjobmgbchpoheaaGreatDoor
open Go Go.RowKit
def Tm.eqF (t u : Tm) : Prop := t.kind = u.kind ∧ t.name = u.name ∧ t.other = u.other ∧ t.n = u.n ∧ t.ty = u.ty ∧ t.res = u.res
theorem Tm.eqF_ext (t u : Tm) : t = u ↔ t.eqF u ∧ t.args = u.args :=
  ⟨fun e => by subst e; exact ⟨⟨rfl, rfl, rfl, rfl, rfl, rfl⟩, rfl⟩, fun ⟨⟨h1, h2, h3, h4, h5, h6⟩, h7⟩ => Tm.ext' h1 h2 h3 h4 h5 h6 h7⟩

set_option maxRecDepth 100000 in
set_option maxHeartbeats 4000000 in
theorem eqFields_any {C C' : Nat → Prop} {t u : Tm} {tp rp p tp' rp' p' : Option Addr} {tc rc c tc' rc' c' : Nat} (w : World) (hT : TM' w C t tp tc rp rc p c) (hU : TM' w C' u tp' tc' rp' rc' p' c') (hn : t.wt ≤ 2097152) :
    Calls Tryz.prog 31 #[tmV t tp tc rp rc p c, tmV u tp' tc' rp' rc' p' c'] w (BoolRet (fun b => b = true ↔ t.eqF u) w) := by
  have HT := Lib.hid hT
  have HU := Lib.hid hU
  have hlm := hT.args.len.1
  have hlm' := hU.args.len.1
  have hb1 := al_below w (.cells (tmC t tp tc rp rc p c) 29)
  have hb2 := al_below (w.alloc (.cells (tmC t tp tc rp rc p c) 29)) (.cells (tmC u tp' tc' rp' rc' p' c') 29)
  have hx2 := Bx9.new (w.alloc (.cells (tmC t tp tc rp rc p c) 29)) u tp' tc' rp' rc' p' c' 29
  rw [World.size_alloc] at hx2
  have HX1 := Lib.hid ((Bx9.new w t tp tc rp rc p c 29).keep hb2)
  have HX2 := Lib.hid hx2
  have HW := Lib.hid (show ∀ (kk nn : Int), kk = t.kind → nn = t.n → Below w.heap.size w ((w.alloc (.cells #[.int .i64 kk, .string t.name, .string t.other, .int .i64 nn, .int .i64 t.ty.kind, .slice tp t.ty.args.length tc, .int .i64 t.res.kind, .slice rp t.res.args.length rc, .slice p t.args.length c] 29)).alloc (.cells (tmC u tp' tc' rp' rc' p' c') 29)) ∧ Bx9 ((w.alloc (.cells #[.int .i64 kk, .string t.name, .string t.other, .int .i64 nn, .int .i64 t.ty.kind, .slice tp t.ty.args.length tc, .int .i64 t.res.kind, .slice rp t.res.args.length rc, .slice p t.args.length c] 29)).alloc (.cells (tmC u tp' tc' rp' rc' p' c') 29)) w.heap.size t tp tc rp rc p c ∧ Bx9 ((w.alloc (.cells #[.int .i64 kk, .string t.name, .string t.other, .int .i64 nn, .int .i64 t.ty.kind, .slice tp t.ty.args.length tc, .int .i64 t.res.kind, .slice rp t.res.args.length rc, .slice p t.args.length c] 29)).alloc (.cells (tmC u tp' tc' rp' rc' p' c') 29)) (w.heap.size + 1) u tp' tc' rp' rc' p' c' from fun kk nn e1 e2 => by
    subst e1 e2
    exact ⟨hb1.trans (hb2.mono (by simp)), HX1.out, HX2.out⟩)
  clear hT hU hb1 hb2 hx2 HX1 HX2
  go_enter Tryz.func31, Tryz.ntmps31
  by_cases hk : t.kind = u.kind
  rotate_left
  · go_wp2_with fail
    go_ret
    exact ⟨false, by simp [Tm.eqF, hk], rfl, (HW.out _ _ rfl rfl).1⟩
  have hk1 : t.kind ≤ u.kind := by omega
  have hk2 : u.kind ≤ t.kind := by omega
  have HK := Lib.hid hk
  clear hk
  by_cases hn : t.name = u.name
  rotate_left
  · have hn1 := str_no hn
    have HN := Lib.hid hn
    clear hn
    go_wp2_with fail
    go_ret
    exact ⟨false, by simp [Tm.eqF, HN.out], rfl, (HW.out _ _ HK.out.symm rfl).1⟩
  have hn1 := str_yes hn
  have HN := Lib.hid hn
  clear hn
  by_cases ho : t.other = u.other
  rotate_left
  · have ho1 := str_no ho
    have HO := Lib.hid ho
    clear ho
    go_wp2_with fail
    go_ret
    exact ⟨false, by simp [Tm.eqF, HO.out], rfl, (HW.out _ _ HK.out.symm rfl).1⟩
  have ho1 := str_yes ho
  have HO := Lib.hid ho
  clear ho
  by_cases hi : t.n = u.n
  rotate_left
  · have HI := Lib.hid hi
    go_wp2_with fail
    go_ret
    exact ⟨false, by simp [Tm.eqF, HI.out], rfl, (HW.out _ _ HK.out.symm rfl).1⟩
  obtain ⟨hb0, hx1, hx2⟩ := HW.out u.kind u.n HK.out.symm hi.symm
  have hwe := t.wt_eq
  have hn3 : nodesS t.ty.args ≤ 2097152 := by omega
  have hn4 : nodesS t.res.args ≤ 2097152 := by omega
  have HB0 := Lib.hid hb0
  have HX1 := Lib.hid hx1
  have HX2 := Lib.hid hx2
  have HI := Lib.hid hi
  have hi1 : t.n ≤ u.n := by omega
  have hi2 : u.n ≤ t.n := by omega
  clear hi hb0 hx1 hx2 HW hwe
  have HC3 := Lib.hid (eqI_any (C := C) (C' := C') (t := t.ty) (u := u.ty) (v := .agg #[.int .i64 t.ty.kind, .slice tp t.ty.args.length tc]) (x := .agg #[.int .i64 u.ty.kind, .slice tp' u.ty.args.length tc']) ⟨_, rfl, HT.out.ty.stays (.of_below HB0.out)⟩ ⟨_, rfl, HU.out.ty.stays (.of_below HB0.out)⟩ hn3)
  go_wp2_with fail
  refine HC3.out.mono ?_
  rintro e w3 ⟨r3, hr3, rfl, hb3⟩
  have HR3 := Lib.hid hr3
  have HB3 := Lib.hid (HB0.out.trans (hb3.mono HB0.out.size))
  have HX13 := Lib.hid (HX1.out.keep hb3)
  have HX23 := Lib.hid (HX2.out.keep hb3)
  clear hr3 hb3 HC3 HX1 HX2 HB0
  cases r3
  · go_wp2_with fail
    go_ret
    exact ⟨false, by simp only [Bool.false_eq_true, false_iff]; exact fun e => (by have := HR3.out.2 e.2.2.2.2.1; cases this), rfl, HB3.out⟩
  obtain ⟨_, _, _, _, _, _, g6, g7, _⟩ := HX13.out
  obtain ⟨_, _, _, _, _, _, d6, d7, _⟩ := HX23.out
  have HC4 := Lib.hid (eqI_any (C := C) (C' := C') (t := t.res) (u := u.res) (v := .agg #[.int .i64 t.res.kind, .slice rp t.res.args.length rc]) (x := .agg #[.int .i64 u.res.kind, .slice rp' u.res.args.length rc']) ⟨_, rfl, HT.out.res.stays (.of_below HB3.out)⟩ ⟨_, rfl, HU.out.res.stays (.of_below HB3.out)⟩ hn4)
  go_wp2_with fail
  refine HC4.out.mono ?_
  rintro e w4 ⟨r4, hr4, rfl, hb4⟩
  have HR4 := Lib.hid hr4
  have HB4 := Lib.hid (HB3.out.trans (hb4.mono HB3.out.size))
  clear g6 g7 d6 d7 hr4 hb4 HC4 HX13 HX23
  go_wp2_with fail
  go_ret
  exact ⟨r4, ⟨fun h => ⟨HK.out, HN.out, HO.out, HI.out, by simpa using HR3.out, HR4.out.1 h⟩, fun h => HR4.out.2 h.2.2.2.2.2⟩, rfl, HB4.out⟩
theorem wt_part {x y : Tm} (h : x.wt ≤ 2097152) (hy : y ∈ x.args) : y.wt ≤ 2097152 := by
  obtain ⟨k, hk, rfl⟩ := List.getElem_of_mem hy
  have h1 := wtS_at x.args k hk
  have h2 := x.wt_eq
  omega

set_option maxRecDepth 100000 in
theorem eqMI_any {C C' : Nat → Prop} {t u : Tm} {v x : Value} {w : World} (h : TM w C t v) (h2 : TM w C' u x) (hn : t.wt ≤ 2097152) (_hn2 : u.wt ≤ 2097152) :
    Calls Tryz.prog 11 #[v, x] w (BoolRet (fun b => b = true ↔ t = u) w) := by
  obtain ⟨tp, tc, rp, rc, p, c, rfl, hT⟩ := h
  obtain ⟨tp', tc', rp', rc', p', c', rfl, hU⟩ := h2
  have hb0 := (al_below w (.cells (tmC t tp tc rp rc p c) 29)).trans ((al_below (w.alloc (.cells (tmC t tp tc rp rc p c) 29)) (.cells (tmC u tp' tc' rp' rc' p' c') 29)).mono (by simp))
  have HA := Lib.hid (eqTreesM_any (C := fun _ => True) (ntM_mk ((hT.stays (.of_below hb0)).mono (C' := fun _ => True) (fun _ _ _ => trivial))) (ntM_mk ((hU.stays (.of_below hb0)).mono (C' := fun _ => True) (fun _ _ _ => trivial))) (by have := t.nodes_wt; omega) Tm.eqF (fun x => x.wt ≤ 2097152) (fun x hx y hy => wt_part hx hy) hn Tm.eqF_ext
    (fun x y v1 v2 W C hq h1 h2 => by
      obtain ⟨_, _, _, _, _, _, rfl, k1⟩ := h1
      obtain ⟨_, _, _, _, _, _, rfl, k2⟩ := h2
      exact eqFields_any W k1 k2 hq))
  have HB0 := Lib.hid hb0
  clear hT hU hb0
  go_enter Tryz.func11, Tryz.ntmps11
  go_wp2_with fail
  refine HA.out.mono ?_
  rintro e w1 ⟨r, hr, rfl, hb⟩
  have HR := Lib.hid hr
  have HB := Lib.hid (HB0.out.trans (hb.mono HB0.out.size))
  clear hr hb
  go_wp2_with fail
  go_ret
  exact ⟨r, HR.out, rfl, HB.out⟩
end Go.Proofs.YtjobmgbchpoheaaGreatDoor
namespace Go.Proofs.YtjobmgbchpoheaaGreatDoor
open Go Go.RowKit

set_option maxHeartbeats 400000 in
theorem big_yes (a : Option Addr) (len cap : Nat) (w : World) (_hl : len ≤ 9223372036854775807) (h : 1048576 < (len : Int)) :
    Calls Tryz.prog 5 #[.slice a len cap] w fun e w' => e = .returned (.bool true) ∧ w = w' := by
  go_enter Tryz.func5, Tryz.ntmps5
  go_wp2_with fail
  go_ret
  exact ⟨rfl, rfl⟩
set_option maxHeartbeats 400000 in
theorem big_no (a : Option Addr) (len cap : Nat) (w : World) (h : ¬ 1048576 < (len : Int)) :
    Calls Tryz.prog 5 #[.slice a len cap] w fun e w' => e = .returned (.bool false) ∧ w = w' := by
  go_enter Tryz.func5, Tryz.ntmps5
  go_wp2_with fail
  go_ret
  exact ⟨rfl, rfl⟩
end Go.Proofs.YtjobmgbchpoheaaGreatDoor
