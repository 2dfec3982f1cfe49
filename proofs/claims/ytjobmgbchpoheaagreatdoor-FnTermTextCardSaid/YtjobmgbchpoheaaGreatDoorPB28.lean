/-
  Several texts of the proof in one (each says below what it holds): RdU.
-/
import Derived.Test.YtjobmgbchpoheaaGreatDoorPB27
namespace Go.Proofs.YtjobmgbchpoheaaGreatDoor
open Go Go.RowKit

theorem takes_yesq {q s : List UInt8} {o : Option Nat} (h : takes q s o = true) : ∃ j, o = some j ∧ pre q s j = true ∧ takeO q s o = some (j + q.length) := by
  cases o with
  | none => cases h
  | some j =>
    have h2 : pre q s j = true := h
    exact ⟨j, rfl, h2, by simp [takeO, h2]⟩
theorem termO_at {f g : Nat → Option (Tm × Nat)} {i j : Nat} {t : Tm} {o' : Option Nat} (h : f j = g i) (ht : termO g (some i) t o') : termO f (some j) t o' := by
  rcases ht with ⟨k, hk, rfl⟩ | ⟨hk, rfl⟩
  · exact Or.inl ⟨k, h.trans hk, rfl⟩
  · exact Or.inr ⟨h.trans hk, rfl⟩
theorem termO_args {f : Nat → Option (Tm × Nat)} {s es : List UInt8} {i : Nat} {ts : List Tm} {o' : Option Nat} (g : List Tm → Tm) (h : argsP f s es (some i) ts o') : termO (fun i => (pts f s es i).map fun r => (g r.1, r.2)) (some i) (g ts) o' := by
  rcases h with ⟨k, hk, rfl⟩ | ⟨hk, rfl⟩
  · exact Or.inl ⟨k, by simp only [hk, Option.map_some], rfl⟩
  · exact Or.inr ⟨by simp only [hk, Option.map_none], rfl⟩
theorem lam_steps {f : Nat → Option (Tm × Nat)} {s : List UInt8} {i : Nat} {a : List UInt8} {ty : Ty} {ts : List Tm} {o5 o9 : Option Nat}
    (ha : a = word s i) (h5 : typO s (mustO [58] s (wordO s (some i))) ty o5) (h9 : argsP f s [41] (mustO [46] s o5) ts o9) :
    termO (pLam s f) (some i) (.mk 6 ⟨a.toArray⟩ E0 0 ty Z0 ts) o9 := by
  subst ha
  simp only [wordO] at h5
  by_cases c2 : s[i + (word s i).length]? = some 58
  · rw [must_yes1 c2] at h5
    rcases h5 with ⟨j, hp, rfl⟩ | ⟨hp, rfl⟩
    · by_cases c4 : s[j]? = some 46
      · rw [must_yes1 c4] at h9
        rcases h9 with ⟨j3, hp3, rfl⟩ | ⟨hp3, rfl⟩
        · exact Or.inl ⟨j3, by simp [pLam, c2, hp, c4, hp3], rfl⟩
        · exact Or.inr ⟨by simp [pLam, c2, hp, c4, hp3], rfl⟩
      · rw [must_no1 c4] at h9
        exact Or.inr ⟨by simp [pLam, c2, hp, c4], h9⟩
    · have e9 : o9 = none := h9
      exact Or.inr ⟨by simp [pLam, c2, hp], e9⟩
  · rw [must_no1 c2] at h5
    have e5 : o5 = none := h5
    subst e5
    have e9 : o9 = none := h9
    exact Or.inr ⟨by simp [pLam, c2], e9⟩
theorem let_steps {f : Nat → Option (Tm × Nat)} {s : List UInt8} {i : Nat} {a : List UInt8} {ts : List Tm} {o9 : Option Nat}
    (ha : a = word s i) (h9 : argsP f s [32, 41] (mustO [61] s (wordO s (some i))) ts o9) :
    termO (pLet s f) (some i) (.mk 8 ⟨a.toArray⟩ E0 0 Z0 Z0 ts) o9 := by
  subst ha
  simp only [wordO] at h9
  by_cases c2 : s[i + (word s i).length]? = some 61
  · rw [must_yes1 c2] at h9
    rcases h9 with ⟨j3, hp3, rfl⟩ | ⟨hp3, rfl⟩
    · exact Or.inl ⟨j3, by simp only [pLet, c2, if_true, hp3, Option.map_some]; rfl, rfl⟩
    · exact Or.inr ⟨by simp only [pLet, c2, if_true, hp3, Option.map_none], rfl⟩
  · rw [must_no1 c2] at h9
    have e9 : o9 = none := h9
    exact Or.inr ⟨by simp only [pLet, if_neg c2], e9⟩
theorem open_rest {f : Nat → Option (Tm × Nat)} {s : List UInt8} {o o1 o2 : Option Nat} {t u : Tm} (h1 : ∀ j, o = some j → pre [92] s j = false) (h2 : ∀ j, o = some j → pre kLet s j = false) (h3 : ∀ j, o = some j → pre kRec s j = false) (h4 : ∀ j, o = some j → pre kIf s j = false)
    (h5 : ∀ j, o = some j → pre kRun s j = false) (h6 : ∀ j, o = some j → pre kLift s j = false) (h7 : ∀ j, o = some j → pre [33] s j = false) (ht : termO f o t o1) (hr : termO (fun j => pRest s f t j) o1 u o2) : termO (pOpen s f) o u o2 := by
  cases o with
  | none =>
    have e1 : o1 = none := ht
    subst e1
    exact hr
  | some j =>
    have hn : f j = none → pOpen s f j = none := fun e => by
      unfold pOpen
      simp only [h1 j rfl, h2 j rfl, h3 j rfl, h4 j rfl, h5 j rfl, h6 j rfl, h7 j rfl, if_false, Bool.false_eq_true, e]
    have hy : ∀ x k, f j = some (x, k) → pOpen s f j = pRest s f x k := fun x k e => by
      unfold pOpen
      simp only [h1 j rfl, h2 j rfl, h3 j rfl, h4 j rfl, h5 j rfl, h6 j rfl, h7 j rfl, if_false, Bool.false_eq_true, e]
    rcases ht with ⟨k, hk, rfl⟩ | ⟨hk, rfl⟩
    · exact termO_at (hy t k hk) hr
    · have e2 : o2 = none := hr
      exact Or.inr ⟨hn hk, e2⟩
section
variable {w0 W : World} {R rb bx : Nat} {s : ByteArray} {q : Option Nat} {t : Tm} {tp rp : Option Addr} {tc rc : Nat}
theorem LS.setAll (h : LS w0 R s rb bx q W t tp tc rp rc) (k : Int) (a : ByteArray) : LS w0 R s rb bx q (((((((((W.setCell ⟨bx, 0, none⟩ (.int .i64 k)).setCell ⟨bx, 1, none⟩ (.string a)).setCell ⟨bx, 2, none⟩ (.string ⟨#[]⟩)).setCell ⟨bx, 3, none⟩ (.int .i64 0)).setCell ⟨bx, 4, none⟩ (.int .i64 0)).setCell ⟨bx, 5, none⟩ (.slice none 0 0)).setCell ⟨bx, 6, none⟩ (.int .i64 0)).setCell ⟨bx, 7, none⟩ (.slice none 0 0)).setCell ⟨bx, 8, none⟩ (.slice none 0 0)) (.mk k a E0 0 Z0 Z0 []) none 0 none 0 :=
  h.set (set9_below W bx bx (.int .i64 k) (.string a) (.string ⟨#[]⟩) (.int .i64 0) (.int .i64 0) (.slice none 0 0) (.int .i64 0) (.slice none 0 0) (.slice none 0 0) (Nat.le_refl _)) (by
      have b0 := Go.Joins.block_setCell h.box (i := 0) (.int .i64 k)
      have b1 := Go.Joins.block_setCell b0 (i := 1) (.string a)
      have b2 := Go.Joins.block_setCell b1 (i := 2) (.string ⟨#[]⟩)
      have b3 := Go.Joins.block_setCell b2 (i := 3) (.int .i64 0)
      have b4 := Go.Joins.block_setCell b3 (i := 4) (.int .i64 0)
      have b5 := Go.Joins.block_setCell b4 (i := 5) (.slice none 0 0)
      have b6 := Go.Joins.block_setCell b5 (i := 6) (.int .i64 0)
      have b7 := Go.Joins.block_setCell b6 (i := 7) (.slice none 0 0)
      have b8 := Go.Joins.block_setCell b7 (i := 8) (.slice none 0 0)
      rw [b8]
      simp [tmC, Tm.kind, Tm.name, Tm.other, Tm.n, Tm.ty, Tm.res, Tm.args, Ty.kind, Ty.args, Z0, E0])
    (set9_stays W bx (.int .i64 k) (.string a) (.string ⟨#[]⟩) (.int .i64 0) (.int .i64 0) (.slice none 0 0) (.int .i64 0) (.slice none 0 0) (.slice none 0 0) (fun z => w0.heap.size ≤ z ∧ z ≠ bx) (fun e => e.2 rfl)) (.nil _ _) (.nil _ _)
end
set_option maxRecDepth 100000 in
set_option maxHeartbeats 16000000 in
theorem l6Open_any {f : Nat → Option (Tm × Nat)} {R : Nat} {s : ByteArray} {D : Int} (hT : TermIs f R s D) (hs : s.size ≤ 1073741824) (o : Option Nat) (w : World) (hr : RdO w R s o) :
    Calls Tryz.prog 74 #[.pointer (some ⟨R, 0, none⟩), .int .i64 D] w (TermRet (pOpen s.data.toList f) R s o w) := by
  have hlt := hr.lt
  obtain ⟨w0, hw0, hs0, hb0, r0⟩ := box_new w zeroC 29
  obtain ⟨wz, hwz, hsz, hbz, r1⟩ := box_new w0 zeroC 29
  rw [hs0] at r1
  have hL0 : LS w0 R s w.heap.size (w.heap.size + 1) o wz zeroM none 0 none 0 :=
    ⟨(hr.below hb0).below hbz, gb_below hbz (some R), (hbz.block _ (by omega)).trans r0, r1, .nil _ _, .nil _ _, by omega, by omega, by omega, by omega⟩
  have HL0 := Lib.hid hL0
  have H0 := Lib.hid (And.intro hs0 (And.intro hb0 (And.intro r0 hlt)))
  have HT := Lib.hid hT
  have HW := Lib.hid (show (w.alloc (.cells #[.int .i64 0, .string ⟨#[]⟩, .string ⟨#[]⟩, .int .i64 0, .int .i64 0, .slice none 0 0, .int .i64 0, .slice none 0 0, .slice none 0 0] 29)).alloc (.cells #[.int .i64 0, .string ⟨#[]⟩, .string ⟨#[]⟩, .int .i64 0, .int .i64 0, .slice none 0 0, .int .i64 0, .slice none 0 0, .slice none 0 0] 29) = wz by rw [← hwz, ← hw0])
  have HQ1 := Lib.hid (takeO_any [92] (by decide) hs hL0.rd)
  clear hr hlt hw0 hs0 hb0 r0 hwz hsz hbz r1 hL0 hT
  go_enter Tryz.func74, Tryz.ntmps74
  go_wp2_with fail
  rw [HW.out]
  refine HQ1.out.mono ?_
  rintro e w1 ⟨rfl, hr1, hg1⟩
  have HL1 := Lib.hid (HL0.out.step hr1 hg1)
  clear hr1 hg1
  obtain ⟨bb, hbb⟩ : ∃ b, takes [92] s.data.toList o = b := ⟨_, rfl⟩
  rw [hbb]
  have HBB := Lib.hid hbb
  clear hbb
  cases bb
  rotate_left
  · obtain ⟨j, rfl, hyes, htk⟩ := takes_yesq HBB.out
    have hLY := HL1.out
    rw [show takeO [92] s.data.toList (some j) = some (j + 1) from htk] at hLY
    have HLY := Lib.hid hLY
    have HYES := Lib.hid hyes
    clear hLY hyes htk HL1
    have HWD := Lib.hid (wordO_any hs HLY.out.rd)
    go_wp2_with fail
    refine HWD.out.mono ?_
    rintro e wa ⟨a, rfl, hal, ha, hra, hga⟩
    have hLa := HLY.out.step hra hga
    have k0 := cell_of_blk hLa.box 0
    have k1 := cell_of_blk hLa.box 1
    have k2 := cell_of_blk hLa.box 2
    have k3 := cell_of_blk hLa.box 3
    have k4 := cell_of_blk hLa.box 4
    have k5 := cell_of_blk hLa.box 5
    have k6 := cell_of_blk hLa.box 6
    have k7 := cell_of_blk hLa.box 7
    have k8 := cell_of_blk hLa.box 8
    have kz := unfrozen_of_blk hLa.box
    simp only [tmC, List.getElem?_toArray, List.getElem?_cons_zero, List.getElem?_cons_succ, Tm.kind, Tm.name, Tm.other, Tm.n, Tm.ty, Tm.res, Tm.args] at k0 k1 k2 k3 k4 k5 k6 k7 k8
    obtain ⟨wb, hwb⟩ : ∃ wb, (((((((((wa.setCell ⟨w.heap.size + 1, 0, none⟩ (.int .i64 6)).setCell ⟨w.heap.size + 1, 1, none⟩ (.string (bx a))).setCell ⟨w.heap.size + 1, 2, none⟩ (.string ⟨#[]⟩)).setCell ⟨w.heap.size + 1, 3, none⟩ (.int .i64 0)).setCell ⟨w.heap.size + 1, 4, none⟩ (.int .i64 0)).setCell ⟨w.heap.size + 1, 5, none⟩ (.slice none 0 0)).setCell ⟨w.heap.size + 1, 6, none⟩ (.int .i64 0)).setCell ⟨w.heap.size + 1, 7, none⟩ (.slice none 0 0)).setCell ⟨w.heap.size + 1, 8, none⟩ (.slice none 0 0)) = wb := ⟨_, rfl⟩
    have hLb := hLa.setAll 6 (bx a)
    rw [hwb] at hLb
    have HWB := Lib.hid hwb
    have HLb := Lib.hid hLb
    have HA := Lib.hid (ha _ rfl)
    have HQb := Lib.hid (mustO_any [58] (by decide) hs hLb.rd)
    clear hLa hLb hra hga ha hwb
    go_wp2_with fail
    rw [HWB.out]
    refine HQb.out.mono ?_
    rintro e wc ⟨rfl, hrc, hgc⟩
    clear k0 k1 k2 k3 k4 k5 k6 k7 k8 kz
    have HLc := Lib.hid (HLb.out.step hrc hgc)
    have HTc := Lib.hid (typO_any hs hrc)
    clear hrc hgc
    go_wp2_with fail
    refine HTc.out.mono ?_
    rintro e wd ⟨vd, ty, od, rfl, ⟨svd, rfl, hTd⟩, hod, hrd, hgd⟩
    obtain ⟨tp, tc, rfl⟩ := hTd.form
    have hLd := HLc.out.step hrd hgd
    have l0 := cell_of_blk hLd.box 0
    have l1 := cell_of_blk hLd.box 1
    have l2 := cell_of_blk hLd.box 2
    have l3 := cell_of_blk hLd.box 3
    have l4 := cell_of_blk hLd.box 4
    have l5 := cell_of_blk hLd.box 5
    have l6 := cell_of_blk hLd.box 6
    have l7 := cell_of_blk hLd.box 7
    have l8 := cell_of_blk hLd.box 8
    have lz := unfrozen_of_blk hLd.box
    simp only [tmC, List.getElem?_toArray, List.getElem?_cons_zero, List.getElem?_cons_succ, Tm.kind, Tm.name, Tm.other, Tm.n, Tm.ty, Tm.res, Tm.args] at l0 l1 l2 l3 l4 l5 l6 l7 l8
    obtain ⟨wf, hwf⟩ : ∃ wf, (wd.setCell ⟨w.heap.size + 1, 4, none⟩ (.int .i64 ty.kind)).setCell ⟨w.heap.size + 1, 5, none⟩ (.slice tp ty.args.length tc) = wf := ⟨_, rfl⟩
    have hLf := hLd.setTy (hTd.mono (C' := fun z => w0.heap.size ≤ z ∧ z ≠ w.heap.size + 1) (fun z hz _ => by have := HLc.out.bxlt; have := H0.out.1; have : wc.heap.size ≤ z := hz; omega))
    rw [hwf] at hLf
    have HOD := Lib.hid hod
    have HLf := Lib.hid hLf
    have HQf := Lib.hid (mustO_any [46] (by decide) hs hLf.rd)
    clear hod hrd hgd hLd hLf hTd
    go_wp2_with fail
    refine HQf.out.mono ?_
    rintro e wg ⟨rfl, hrg, hgg⟩
    clear hwf l0 l1 l2 l3 l4 l5 l6 l7 l8 lz
    have hLA := HLf.out.step hrg hgg
    have HAR := Lib.hid (l6Args_any HT.out hs 1 (by decide) 6 (bx a) E0 0 ty Z0 [] (by simp) tp tc none 0 none 0 [] w0 wg _ hLA.rd hLA.grown (fun z => w0.heap.size ≤ z) hLA.hR (fun z hz e => by have := hLA.hR; have : w0.heap.size ≤ z := hz; omega) (fun _ hz => hz) hLA.new)
    have m0 := cell_of_blk hLA.box 0
    have m1 := cell_of_blk hLA.box 1
    have m2 := cell_of_blk hLA.box 2
    have m3 := cell_of_blk hLA.box 3
    have m4 := cell_of_blk hLA.box 4
    have m5 := cell_of_blk hLA.box 5
    have m6 := cell_of_blk hLA.box 6
    have m7 := cell_of_blk hLA.box 7
    have m8 := cell_of_blk hLA.box 8
    have mz := unfrozen_of_blk hLA.box
    simp only [tmC, List.getElem?_toArray, List.getElem?_cons_zero, List.getElem?_cons_succ, Tm.kind, Tm.name, Tm.other, Tm.n, Tm.ty, Tm.res, Tm.args] at m0 m1 m2 m3 m4 m5 m6 m7 m8
    clear hLA hrg hgg
    go_wp2_with fail
    refine HAR.out.mono ?_
    rintro e we ⟨m, ts, o1, tp', tc', rp', rc', p', c', xs', hm, hend, har, rfl, hN, hre, hge⟩
    have hg := grownBy_trans (gb_below H0.out.2.1 (some R)) hge
    have hout := (hge.block w.heap.size (by have := H0.out.1; omega) (fun e => by have := Option.some.inj e; have := H0.out.2.2.2; omega)).trans H0.out.2.2.1
    have q0 := cell_of_blk hout 0
    have q1 := cell_of_blk hout 1
    have q2 := cell_of_blk hout 2
    have q3 := cell_of_blk hout 3
    have q4 := cell_of_blk hout 4
    have q5 := cell_of_blk hout 5
    have q6 := cell_of_blk hout 6
    have q7 := cell_of_blk hout 7
    have q8 := cell_of_blk hout 8
    have qz := unfrozen_of_blk hout
    simp only [List.getElem?_toArray, List.getElem?_cons_zero, List.getElem?_cons_succ] at q0 q1 q2 q3 q4 q5 q6 q7 q8
    have HX := Lib.hid (And.intro hg (And.intro hre hN))
    have HARG := Lib.hid (args_pts (s := s.data.toList) (N := 1) (by decide) hm hend har)
    clear hg hre hN hge hout har hend hm
    go_wp2_with fail
    refine bodyPost_ret (v := tmV (.mk 6 (bx a) E0 0 ty Z0 ts) tp' tc' rp' rc' p' c') ?_ rfl ?_
    · rw [results_cell1 rfl]
      go_simp
      all_goals (repeat' apply And.intro) <;> rfl
    · obtain ⟨x1, x2, x3⟩ := HX.out
      exact tm_fin x1 H0.out.2.2.2 x2 (x3.tm.mono (fun z hz _ => by have := H0.out.1; have : w0.heap.size ≤ z := hz; omega)) (termO_at (g := pLam s.data.toList f) (i := j + 1) (by unfold pOpen; rw [if_pos HYES.out]) (lam_steps HA.out HOD.out HARG.out))
  have hL1b := HL1.out
  rw [(takes_no HBB.out).1] at hL1b
  have HL1b := Lib.hid hL1b
  have HN1 := Lib.hid (takes_no HBB.out).2
  clear hL1b HL1 HBB
  have HQ2 := Lib.hid (takeO_any kLet (by decide) hs HL1b.out.rd)
  go_wp2_with fail
  refine HQ2.out.mono ?_
  rintro e w2 ⟨rfl, hr2, hg2⟩
  have HL2 := Lib.hid (HL1b.out.step hr2 hg2)
  clear hr2 hg2
  obtain ⟨bb, hbb⟩ : ∃ b, takes kLet s.data.toList o = b := ⟨_, rfl⟩
  rw [hbb]
  have HBB := Lib.hid hbb
  clear hbb
  cases bb
  rotate_left
  · obtain ⟨j, rfl, hyes, htk⟩ := takes_yesq HBB.out
    have hLY := HL2.out
    rw [show takeO kLet s.data.toList (some j) = some (j + 4) from htk] at hLY
    have HLY := Lib.hid hLY
    have HYES := Lib.hid hyes
    clear hLY hyes htk HL2
    have HWD := Lib.hid (wordO_any hs HLY.out.rd)
    go_wp2_with fail
    refine HWD.out.mono ?_
    rintro e wa ⟨a, rfl, hal, ha, hra, hga⟩
    have hLa := HLY.out.step hra hga
    have k0 := cell_of_blk hLa.box 0
    have k1 := cell_of_blk hLa.box 1
    have k2 := cell_of_blk hLa.box 2
    have k3 := cell_of_blk hLa.box 3
    have k4 := cell_of_blk hLa.box 4
    have k5 := cell_of_blk hLa.box 5
    have k6 := cell_of_blk hLa.box 6
    have k7 := cell_of_blk hLa.box 7
    have k8 := cell_of_blk hLa.box 8
    have kz := unfrozen_of_blk hLa.box
    simp only [tmC, List.getElem?_toArray, List.getElem?_cons_zero, List.getElem?_cons_succ, Tm.kind, Tm.name, Tm.other, Tm.n, Tm.ty, Tm.res, Tm.args] at k0 k1 k2 k3 k4 k5 k6 k7 k8
    obtain ⟨wb, hwb⟩ : ∃ wb, (((((((((wa.setCell ⟨w.heap.size + 1, 0, none⟩ (.int .i64 8)).setCell ⟨w.heap.size + 1, 1, none⟩ (.string (bx a))).setCell ⟨w.heap.size + 1, 2, none⟩ (.string ⟨#[]⟩)).setCell ⟨w.heap.size + 1, 3, none⟩ (.int .i64 0)).setCell ⟨w.heap.size + 1, 4, none⟩ (.int .i64 0)).setCell ⟨w.heap.size + 1, 5, none⟩ (.slice none 0 0)).setCell ⟨w.heap.size + 1, 6, none⟩ (.int .i64 0)).setCell ⟨w.heap.size + 1, 7, none⟩ (.slice none 0 0)).setCell ⟨w.heap.size + 1, 8, none⟩ (.slice none 0 0)) = wb := ⟨_, rfl⟩
    have hLb := hLa.setAll 8 (bx a)
    rw [hwb] at hLb
    have HWB := Lib.hid hwb
    have HLb := Lib.hid hLb
    have HA := Lib.hid (ha _ rfl)
    have HQb := Lib.hid (mustO_any [61] (by decide) hs hLb.rd)
    clear hLa hLb hra hga ha hwb
    go_wp2_with fail
    rw [HWB.out]
    refine HQb.out.mono ?_
    rintro e wg ⟨rfl, hrg, hgg⟩
    clear k0 k1 k2 k3 k4 k5 k6 k7 k8 kz
    have hLA := HLb.out.step hrg hgg
    have HAR := Lib.hid (l6Args_any HT.out hs 2 (by decide) 8 (bx a) E0 0 Z0 Z0 [] (by simp) none 0 none 0 none 0 [] w0 wg _ hLA.rd hLA.grown (fun z => w0.heap.size ≤ z) hLA.hR (fun z hz e => by have := hLA.hR; have : w0.heap.size ≤ z := hz; omega) (fun _ hz => hz) hLA.new)
    have m0 := cell_of_blk hLA.box 0
    have m1 := cell_of_blk hLA.box 1
    have m2 := cell_of_blk hLA.box 2
    have m3 := cell_of_blk hLA.box 3
    have m4 := cell_of_blk hLA.box 4
    have m5 := cell_of_blk hLA.box 5
    have m6 := cell_of_blk hLA.box 6
    have m7 := cell_of_blk hLA.box 7
    have m8 := cell_of_blk hLA.box 8
    have mz := unfrozen_of_blk hLA.box
    simp only [tmC, List.getElem?_toArray, List.getElem?_cons_zero, List.getElem?_cons_succ, Tm.kind, Tm.name, Tm.other, Tm.n, Tm.ty, Tm.res, Tm.args] at m0 m1 m2 m3 m4 m5 m6 m7 m8
    clear hLA hrg hgg
    go_wp2_with fail
    refine HAR.out.mono ?_
    rintro e we ⟨m, ts, o1, tp', tc', rp', rc', p', c', xs', hm, hend, har, rfl, hN, hre, hge⟩
    have hg := grownBy_trans (gb_below H0.out.2.1 (some R)) hge
    have hout := (hge.block w.heap.size (by have := H0.out.1; omega) (fun e => by have := Option.some.inj e; have := H0.out.2.2.2; omega)).trans H0.out.2.2.1
    have q0 := cell_of_blk hout 0
    have q1 := cell_of_blk hout 1
    have q2 := cell_of_blk hout 2
    have q3 := cell_of_blk hout 3
    have q4 := cell_of_blk hout 4
    have q5 := cell_of_blk hout 5
    have q6 := cell_of_blk hout 6
    have q7 := cell_of_blk hout 7
    have q8 := cell_of_blk hout 8
    have qz := unfrozen_of_blk hout
    simp only [List.getElem?_toArray, List.getElem?_cons_zero, List.getElem?_cons_succ] at q0 q1 q2 q3 q4 q5 q6 q7 q8
    have HX := Lib.hid (And.intro hg (And.intro hre hN))
    have HARG := Lib.hid (args_pts (s := s.data.toList) (N := 2) (by decide) hm hend har)
    clear hg hre hN hge hout har hend hm
    go_wp2_with fail
    refine bodyPost_ret (v := tmV (.mk 8 (bx a) E0 0 Z0 Z0 ts) tp' tc' rp' rc' p' c') ?_ rfl ?_
    · rw [results_cell1 rfl]
      go_simp
      all_goals (repeat' apply And.intro) <;> rfl
    · obtain ⟨x1, x2, x3⟩ := HX.out
      exact tm_fin x1 H0.out.2.2.2 x2 (x3.tm.mono (fun z hz _ => by have := H0.out.1; have : w0.heap.size ≤ z := hz; omega)) (termO_at (g := pLet s.data.toList f) (i := j + 4) (by unfold pOpen; rw [if_neg (by rw [HN1.out _ rfl]; decide), if_pos HYES.out]) (let_steps HA.out HARG.out))
  have hL2b := HL2.out
  rw [(takes_no HBB.out).1] at hL2b
  have HL2b := Lib.hid hL2b
  have HN2 := Lib.hid (takes_no HBB.out).2
  clear hL2b HL2 HBB
  have HQ3 := Lib.hid (takeO_any kRec (by decide) hs HL2b.out.rd)
  go_wp2_with fail
  refine HQ3.out.mono ?_
  rintro e w3 ⟨rfl, hr3, hg3⟩
  have HL3 := Lib.hid (HL2b.out.step hr3 hg3)
  clear hr3 hg3
  obtain ⟨bb, hbb⟩ : ∃ b, takes kRec s.data.toList o = b := ⟨_, rfl⟩
  rw [hbb]
  have HBB := Lib.hid hbb
  clear hbb
  cases bb
  rotate_left
  · obtain ⟨j, rfl, hyes, htk⟩ := takes_yesq HBB.out
    have hLY := HL3.out
    rw [show takeO kRec s.data.toList (some j) = some (j + 4) from htk] at hLY
    have HLY := Lib.hid hLY
    have HYES := Lib.hid hyes
    clear hLY hyes htk HL3
    have HAR := Lib.hid (l6Rec_any HT.out hs _ w3 HLY.out.rd)
    go_wp2_with fail
    refine HAR.out.mono ?_
    rintro e we ⟨ve, te, oe, rfl, ⟨tp', tc', rp', rc', p', c', rfl, hN⟩, hoe, hre, hge0⟩
    have hge := grownBy_trans HLY.out.grown hge0
    have hlo := HLY.out.grown.size
    have hg := grownBy_trans (gb_below H0.out.2.1 (some R)) hge
    have hout := (hge.block w.heap.size (by have := H0.out.1; omega) (fun e => by have := Option.some.inj e; have := H0.out.2.2.2; omega)).trans H0.out.2.2.1
    have q0 := cell_of_blk hout 0
    have q1 := cell_of_blk hout 1
    have q2 := cell_of_blk hout 2
    have q3 := cell_of_blk hout 3
    have q4 := cell_of_blk hout 4
    have q5 := cell_of_blk hout 5
    have q6 := cell_of_blk hout 6
    have q7 := cell_of_blk hout 7
    have q8 := cell_of_blk hout 8
    have qz := unfrozen_of_blk hout
    simp only [List.getElem?_toArray, List.getElem?_cons_zero, List.getElem?_cons_succ] at q0 q1 q2 q3 q4 q5 q6 q7 q8
    have HX := Lib.hid (And.intro hg (And.intro hre hN))
    have HOE := Lib.hid hoe
    have HLO := Lib.hid hlo
    clear hg hre hN hge hge0 hout hoe hlo
    go_wp2_with fail
    refine bodyPost_ret (v := tmV te tp' tc' rp' rc' p' c') ?_ rfl ?_
    · rw [results_cell1 rfl]
      go_simp
      all_goals (repeat' apply And.intro) <;> rfl
    · obtain ⟨x1, x2, x3⟩ := HX.out
      exact tm_fin x1 H0.out.2.2.2 x2 (x3.mono (fun z hz _ => by have := H0.out.1; have := HLO.out; have : w3.heap.size ≤ z := hz; omega)) (termO_at (g := pRec s.data.toList f) (i := j + 4) (by unfold pOpen; rw [if_neg (by rw [HN1.out _ rfl]; decide), if_neg (by rw [HN2.out _ rfl]; decide), if_pos HYES.out]) HOE.out)
  have hL3b := HL3.out
  rw [(takes_no HBB.out).1] at hL3b
  have HL3b := Lib.hid hL3b
  have HN3 := Lib.hid (takes_no HBB.out).2
  clear hL3b HL3 HBB
  have HQ4 := Lib.hid (takeO_any kIf (by decide) hs HL3b.out.rd)
  go_wp2_with fail
  refine HQ4.out.mono ?_
  rintro e w4 ⟨rfl, hr4, hg4⟩
  have HL4 := Lib.hid (HL3b.out.step hr4 hg4)
  clear hr4 hg4
  obtain ⟨bb, hbb⟩ : ∃ b, takes kIf s.data.toList o = b := ⟨_, rfl⟩
  rw [hbb]
  have HBB := Lib.hid hbb
  clear hbb
  cases bb
  rotate_left
  · obtain ⟨j, rfl, hyes, htk⟩ := takes_yesq HBB.out
    have hLY := HL4.out
    rw [show takeO kIf s.data.toList (some j) = some (j + 3) from htk] at hLY
    have HLY := Lib.hid hLY
    have HYES := Lib.hid hyes
    clear hLY hyes htk HL4
    have hLA := HLY.out
    have HAR := Lib.hid (l6Args_any HT.out hs 3 (by decide) 5 E0 E0 0 Z0 Z0 [] (by simp) none 0 none 0 none 0 [] w0 w4 _ hLA.rd hLA.grown (fun z => w0.heap.size ≤ z) hLA.hR (fun z hz e => by have := hLA.hR; have : w0.heap.size ≤ z := hz; omega) (fun _ hz => hz) ⟨.nil _ _, .nil _ _, RowM.start _ _ _⟩)
    clear hLA
    go_wp2_with fail
    refine HAR.out.mono ?_
    rintro e we ⟨m, ts, o1, tp', tc', rp', rc', p', c', xs', hm, hend, har, rfl, hN, hre, hge⟩
    have hg := grownBy_trans (gb_below H0.out.2.1 (some R)) hge
    have hout := (hge.block w.heap.size (by have := H0.out.1; omega) (fun e => by have := Option.some.inj e; have := H0.out.2.2.2; omega)).trans H0.out.2.2.1
    have q0 := cell_of_blk hout 0
    have q1 := cell_of_blk hout 1
    have q2 := cell_of_blk hout 2
    have q3 := cell_of_blk hout 3
    have q4 := cell_of_blk hout 4
    have q5 := cell_of_blk hout 5
    have q6 := cell_of_blk hout 6
    have q7 := cell_of_blk hout 7
    have q8 := cell_of_blk hout 8
    have qz := unfrozen_of_blk hout
    simp only [List.getElem?_toArray, List.getElem?_cons_zero, List.getElem?_cons_succ] at q0 q1 q2 q3 q4 q5 q6 q7 q8
    have HX := Lib.hid (And.intro hg (And.intro hre hN))
    have HARG := Lib.hid (args_pts (s := s.data.toList) (N := 3) (by decide) hm hend har)
    clear hg hre hN hge hout har hend hm
    go_wp2_with fail
    refine bodyPost_ret (v := tmV (.mk 5 E0 E0 0 Z0 Z0 ts) tp' tc' rp' rc' p' c') ?_ rfl ?_
    · rw [results_cell1 rfl]
      go_simp
      all_goals (repeat' apply And.intro) <;> rfl
    · obtain ⟨x1, x2, x3⟩ := HX.out
      exact tm_fin x1 H0.out.2.2.2 x2 (x3.tm.mono (fun z hz _ => by have := H0.out.1; have : w0.heap.size ≤ z := hz; omega)) (termO_at (g := fun i => (pts f s.data.toList (signs 3) i).map fun r => (mkT 5 [] 0 r.1, r.2)) (i := j + 3) (by unfold pOpen; rw [if_neg (by rw [HN1.out _ rfl]; decide), if_neg (by rw [HN2.out _ rfl]; decide), if_neg (by rw [HN3.out _ rfl]; decide), if_pos HYES.out]; rfl) (termO_args (fun ts => mkT 5 [] 0 ts) HARG.out))
  have hL4b := HL4.out
  rw [(takes_no HBB.out).1] at hL4b
  have HL4b := Lib.hid hL4b
  have HN4 := Lib.hid (takes_no HBB.out).2
  clear hL4b HL4 HBB
  have HQ5 := Lib.hid (takeO_any kRun (by decide) hs HL4b.out.rd)
  go_wp2_with fail
  refine HQ5.out.mono ?_
  rintro e w5 ⟨rfl, hr5, hg5⟩
  have HL5 := Lib.hid (HL4b.out.step hr5 hg5)
  clear hr5 hg5
  obtain ⟨bb, hbb⟩ : ∃ b, takes kRun s.data.toList o = b := ⟨_, rfl⟩
  rw [hbb]
  have HBB := Lib.hid hbb
  clear hbb
  cases bb
  rotate_left
  · obtain ⟨j, rfl, hyes, htk⟩ := takes_yesq HBB.out
    have hLY := HL5.out
    rw [show takeO kRun s.data.toList (some j) = some (j + 4) from htk] at hLY
    have HLY := Lib.hid hLY
    have HYES := Lib.hid hyes
    clear hLY hyes htk HL5
    have hLA := HLY.out
    have HAR := Lib.hid (l6Args_any HT.out hs 1 (by decide) 12 E0 E0 0 Z0 Z0 [] (by simp) none 0 none 0 none 0 [] w0 w5 _ hLA.rd hLA.grown (fun z => w0.heap.size ≤ z) hLA.hR (fun z hz e => by have := hLA.hR; have : w0.heap.size ≤ z := hz; omega) (fun _ hz => hz) ⟨.nil _ _, .nil _ _, RowM.start _ _ _⟩)
    clear hLA
    go_wp2_with fail
    refine HAR.out.mono ?_
    rintro e we ⟨m, ts, o1, tp', tc', rp', rc', p', c', xs', hm, hend, har, rfl, hN, hre, hge⟩
    have hg := grownBy_trans (gb_below H0.out.2.1 (some R)) hge
    have hout := (hge.block w.heap.size (by have := H0.out.1; omega) (fun e => by have := Option.some.inj e; have := H0.out.2.2.2; omega)).trans H0.out.2.2.1
    have q0 := cell_of_blk hout 0
    have q1 := cell_of_blk hout 1
    have q2 := cell_of_blk hout 2
    have q3 := cell_of_blk hout 3
    have q4 := cell_of_blk hout 4
    have q5 := cell_of_blk hout 5
    have q6 := cell_of_blk hout 6
    have q7 := cell_of_blk hout 7
    have q8 := cell_of_blk hout 8
    have qz := unfrozen_of_blk hout
    simp only [List.getElem?_toArray, List.getElem?_cons_zero, List.getElem?_cons_succ] at q0 q1 q2 q3 q4 q5 q6 q7 q8
    have HX := Lib.hid (And.intro hg (And.intro hre hN))
    have HARG := Lib.hid (args_pts (s := s.data.toList) (N := 1) (by decide) hm hend har)
    clear hg hre hN hge hout har hend hm
    go_wp2_with fail
    refine bodyPost_ret (v := tmV (.mk 12 E0 E0 0 Z0 Z0 ts) tp' tc' rp' rc' p' c') ?_ rfl ?_
    · rw [results_cell1 rfl]
      go_simp
      all_goals (repeat' apply And.intro) <;> rfl
    · obtain ⟨x1, x2, x3⟩ := HX.out
      exact tm_fin x1 H0.out.2.2.2 x2 (x3.tm.mono (fun z hz _ => by have := H0.out.1; have : w0.heap.size ≤ z := hz; omega)) (termO_at (g := fun i => (pts f s.data.toList (signs 1) i).map fun r => (mkT 12 [] 0 r.1, r.2)) (i := j + 4) (by unfold pOpen; rw [if_neg (by rw [HN1.out _ rfl]; decide), if_neg (by rw [HN2.out _ rfl]; decide), if_neg (by rw [HN3.out _ rfl]; decide), if_neg (by rw [HN4.out _ rfl]; decide), if_pos HYES.out]; rfl) (termO_args (fun ts => mkT 12 [] 0 ts) HARG.out))
  have hL5b := HL5.out
  rw [(takes_no HBB.out).1] at hL5b
  have HL5b := Lib.hid hL5b
  have HN5 := Lib.hid (takes_no HBB.out).2
  clear hL5b HL5 HBB
  have HQ6 := Lib.hid (takeO_any kLift (by decide) hs HL5b.out.rd)
  go_wp2_with fail
  refine HQ6.out.mono ?_
  rintro e w6 ⟨rfl, hr6, hg6⟩
  have HL6 := Lib.hid (HL5b.out.step hr6 hg6)
  clear hr6 hg6
  obtain ⟨bb, hbb⟩ : ∃ b, takes kLift s.data.toList o = b := ⟨_, rfl⟩
  rw [hbb]
  have HBB := Lib.hid hbb
  clear hbb
  cases bb
  rotate_left
  · obtain ⟨j, rfl, hyes, htk⟩ := takes_yesq HBB.out
    have hLY := HL6.out
    rw [show takeO kLift s.data.toList (some j) = some (j + 5) from htk] at hLY
    have HLY := Lib.hid hLY
    have HYES := Lib.hid hyes
    clear hLY hyes htk HL6
    have hLA := HLY.out
    have HAR := Lib.hid (l6Args_any HT.out hs 1 (by decide) 13 E0 E0 0 Z0 Z0 [] (by simp) none 0 none 0 none 0 [] w0 w6 _ hLA.rd hLA.grown (fun z => w0.heap.size ≤ z) hLA.hR (fun z hz e => by have := hLA.hR; have : w0.heap.size ≤ z := hz; omega) (fun _ hz => hz) ⟨.nil _ _, .nil _ _, RowM.start _ _ _⟩)
    clear hLA
    go_wp2_with fail
    refine HAR.out.mono ?_
    rintro e we ⟨m, ts, o1, tp', tc', rp', rc', p', c', xs', hm, hend, har, rfl, hN, hre, hge⟩
    have hg := grownBy_trans (gb_below H0.out.2.1 (some R)) hge
    have hout := (hge.block w.heap.size (by have := H0.out.1; omega) (fun e => by have := Option.some.inj e; have := H0.out.2.2.2; omega)).trans H0.out.2.2.1
    have q0 := cell_of_blk hout 0
    have q1 := cell_of_blk hout 1
    have q2 := cell_of_blk hout 2
    have q3 := cell_of_blk hout 3
    have q4 := cell_of_blk hout 4
    have q5 := cell_of_blk hout 5
    have q6 := cell_of_blk hout 6
    have q7 := cell_of_blk hout 7
    have q8 := cell_of_blk hout 8
    have qz := unfrozen_of_blk hout
    simp only [List.getElem?_toArray, List.getElem?_cons_zero, List.getElem?_cons_succ] at q0 q1 q2 q3 q4 q5 q6 q7 q8
    have HX := Lib.hid (And.intro hg (And.intro hre hN))
    have HARG := Lib.hid (args_pts (s := s.data.toList) (N := 1) (by decide) hm hend har)
    clear hg hre hN hge hout har hend hm
    go_wp2_with fail
    refine bodyPost_ret (v := tmV (.mk 13 E0 E0 0 Z0 Z0 ts) tp' tc' rp' rc' p' c') ?_ rfl ?_
    · rw [results_cell1 rfl]
      go_simp
      all_goals (repeat' apply And.intro) <;> rfl
    · obtain ⟨x1, x2, x3⟩ := HX.out
      exact tm_fin x1 H0.out.2.2.2 x2 (x3.tm.mono (fun z hz _ => by have := H0.out.1; have : w0.heap.size ≤ z := hz; omega)) (termO_at (g := fun i => (pts f s.data.toList (signs 1) i).map fun r => (mkT 13 [] 0 r.1, r.2)) (i := j + 5) (by unfold pOpen; rw [if_neg (by rw [HN1.out _ rfl]; decide), if_neg (by rw [HN2.out _ rfl]; decide), if_neg (by rw [HN3.out _ rfl]; decide), if_neg (by rw [HN4.out _ rfl]; decide), if_neg (by rw [HN5.out _ rfl]; decide), if_pos HYES.out]; rfl) (termO_args (fun ts => mkT 13 [] 0 ts) HARG.out))
  have hL6b := HL6.out
  rw [(takes_no HBB.out).1] at hL6b
  have HL6b := Lib.hid hL6b
  have HN6 := Lib.hid (takes_no HBB.out).2
  clear hL6b HL6 HBB
  have HQ7 := Lib.hid (takeO_any [33] (by decide) hs HL6b.out.rd)
  go_wp2_with fail
  refine HQ7.out.mono ?_
  rintro e w7 ⟨rfl, hr7, hg7⟩
  have HL7 := Lib.hid (HL6b.out.step hr7 hg7)
  clear hr7 hg7
  obtain ⟨bb, hbb⟩ : ∃ b, takes [33] s.data.toList o = b := ⟨_, rfl⟩
  rw [hbb]
  have HBB := Lib.hid hbb
  clear hbb
  cases bb
  rotate_left
  · obtain ⟨j, rfl, hyes, htk⟩ := takes_yesq HBB.out
    have hLY := HL7.out
    rw [show takeO [33] s.data.toList (some j) = some (j + 1) from htk] at hLY
    have HLY := Lib.hid hLY
    have HYES := Lib.hid hyes
    clear hLY hyes htk HL7
    have hLA := HLY.out
    have HAR := Lib.hid (l6Args_any HT.out hs 1 (by decide) 4 ⟨#[33]⟩ E0 0 Z0 Z0 [] (by simp) none 0 none 0 none 0 [] w0 w7 _ hLA.rd hLA.grown (fun z => w0.heap.size ≤ z) hLA.hR (fun z hz e => by have := hLA.hR; have : w0.heap.size ≤ z := hz; omega) (fun _ hz => hz) ⟨.nil _ _, .nil _ _, RowM.start _ _ _⟩)
    clear hLA
    go_wp2_with fail
    refine HAR.out.mono ?_
    rintro e we ⟨m, ts, o1, tp', tc', rp', rc', p', c', xs', hm, hend, har, rfl, hN, hre, hge⟩
    have hg := grownBy_trans (gb_below H0.out.2.1 (some R)) hge
    have hout := (hge.block w.heap.size (by have := H0.out.1; omega) (fun e => by have := Option.some.inj e; have := H0.out.2.2.2; omega)).trans H0.out.2.2.1
    have q0 := cell_of_blk hout 0
    have q1 := cell_of_blk hout 1
    have q2 := cell_of_blk hout 2
    have q3 := cell_of_blk hout 3
    have q4 := cell_of_blk hout 4
    have q5 := cell_of_blk hout 5
    have q6 := cell_of_blk hout 6
    have q7 := cell_of_blk hout 7
    have q8 := cell_of_blk hout 8
    have qz := unfrozen_of_blk hout
    simp only [List.getElem?_toArray, List.getElem?_cons_zero, List.getElem?_cons_succ] at q0 q1 q2 q3 q4 q5 q6 q7 q8
    have HX := Lib.hid (And.intro hg (And.intro hre hN))
    have HARG := Lib.hid (args_pts (s := s.data.toList) (N := 1) (by decide) hm hend har)
    clear hg hre hN hge hout har hend hm
    go_wp2_with fail
    refine bodyPost_ret (v := tmV (.mk 4 ⟨#[33]⟩ E0 0 Z0 Z0 ts) tp' tc' rp' rc' p' c') ?_ rfl ?_
    · rw [results_cell1 rfl]
      go_simp
      all_goals (repeat' apply And.intro) <;> rfl
    · obtain ⟨x1, x2, x3⟩ := HX.out
      exact tm_fin x1 H0.out.2.2.2 x2 (x3.tm.mono (fun z hz _ => by have := H0.out.1; have : w0.heap.size ≤ z := hz; omega)) (termO_at (g := fun i => (pts f s.data.toList (signs 1) i).map fun r => (mkT 4 [33] 0 r.1, r.2)) (i := j + 1) (by unfold pOpen; rw [if_neg (by rw [HN1.out _ rfl]; decide), if_neg (by rw [HN2.out _ rfl]; decide), if_neg (by rw [HN3.out _ rfl]; decide), if_neg (by rw [HN4.out _ rfl]; decide), if_neg (by rw [HN5.out _ rfl]; decide), if_neg (by rw [HN6.out _ rfl]; decide), if_pos HYES.out]; rfl) (termO_args (fun ts => mkT 4 [33] 0 ts) HARG.out))
  have hL7b := HL7.out
  rw [(takes_no HBB.out).1] at hL7b
  have HL7b := Lib.hid hL7b
  have HN7 := Lib.hid (takes_no HBB.out).2
  clear hL7b HL7 HBB
  have HTT := Lib.hid (HT.out o w7 HL7b.out.rd)
  go_wp2_with fail
  refine HTT.out.mono ?_
  rintro e w8 ⟨v8, t8, o8, rfl, ⟨tp8, tc8, rp8, rc8, p8, c8, rfl, hN8⟩, ho8, hr8, hg8⟩
  have HO8 := Lib.hid ho8
  have HAR := Lib.hid (l6Rest_any HT.out hs t8 tp8 tc8 rp8 rc8 p8 c8 o8 w7 w8 hr8 hg8 (by have := HL7b.out.grown.size; have := HL7b.out.hR; omega) hN8)
  clear ho8 hr8 hg8 hN8
  go_wp2_with fail
  refine HAR.out.mono ?_
  rintro e we ⟨ve, te, oe, rfl, ⟨tp', tc', rp', rc', p', c', rfl, hN⟩, hoe, hre, hge0⟩
  have hge := grownBy_trans HL7b.out.grown hge0
  have hlo := HL7b.out.grown.size
  have hg := grownBy_trans (gb_below H0.out.2.1 (some R)) hge
  have hout := (hge.block w.heap.size (by have := H0.out.1; omega) (fun e => by have := Option.some.inj e; have := H0.out.2.2.2; omega)).trans H0.out.2.2.1
  have q0 := cell_of_blk hout 0
  have q1 := cell_of_blk hout 1
  have q2 := cell_of_blk hout 2
  have q3 := cell_of_blk hout 3
  have q4 := cell_of_blk hout 4
  have q5 := cell_of_blk hout 5
  have q6 := cell_of_blk hout 6
  have q7 := cell_of_blk hout 7
  have q8 := cell_of_blk hout 8
  have qz := unfrozen_of_blk hout
  simp only [List.getElem?_toArray, List.getElem?_cons_zero, List.getElem?_cons_succ] at q0 q1 q2 q3 q4 q5 q6 q7 q8
  have HX := Lib.hid (And.intro hg (And.intro hre hN))
  have HOE := Lib.hid hoe
  have HLO := Lib.hid hlo
  clear hg hre hN hge hge0 hout hoe hlo
  go_wp2_with fail
  refine bodyPost_ret (v := tmV te tp' tc' rp' rc' p' c') ?_ rfl ?_
  · rw [results_cell1 rfl]
    go_simp
    all_goals (repeat' apply And.intro) <;> rfl
  · obtain ⟨x1, x2, x3⟩ := HX.out
    exact tm_fin x1 H0.out.2.2.2 x2 (x3.mono (fun z hz _ => by have := H0.out.1; have := HLO.out; have : w7.heap.size ≤ z := hz; omega)) (open_rest HN1.out HN2.out HN3.out HN4.out HN5.out HN6.out HN7.out HO8.out HOE.out)
end Go.Proofs.YtjobmgbchpoheaaGreatDoor
