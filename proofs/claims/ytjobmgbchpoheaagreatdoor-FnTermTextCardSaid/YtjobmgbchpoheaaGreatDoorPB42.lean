/-
  Several texts of the proof in one (each says below what it holds): RdV Mark TmMark TmMark2 TmHeld TmEq ParseTermLaw.
-/
import Derived.Test.YtjobmgbchpoheaaGreatDoorPB28
import Derived.Test.YtjobmgbchpoheaaGreatDoorPB30
import Derived.Test.YtjobmgbchpoheaaGreatDoorPB41
import Derived.Test.YtjobmgbchpoheaaGreatDoorPB14
import Derived.Test.YtjobmgbchpoheaaGreatDoorPB21
import Derived.Test.YtjobmgbchpoheaaGreatDoorPB5
import Derived.Test.YtjobmgbchpoheaaGreatDoorPB17
import Derived.Test.YtjobmgbchpoheaaGreatDoorPB7
import Derived.Test.YtjobmgbchpoheaaGreatDoorPB1
import Derived.Test.YtjobmgbchpoheaaGreatDoorProg
import Derived.WalkSmall
import Derived.Deep.RegionHeld3
import Derived.Lib.SmallJoins
namespace Go.Proofs.YtjobmgbchpoheaaGreatDoor
open Go Go.RowKit
structure TR (w : World) (R : Nat) (s : ByteArray) (q : Option Nat) (W : World) : Prop where
  rd : RdO W R s q
  grown : w.grownBy W (some R)
  out : W.heap[w.heap.size]? = some (.cells zeroC 29 (0, 0))
  hR : R < w.heap.size
section
variable {w W W' : World} {R : Nat} {s : ByteArray} {q q' : Option Nat}
theorem TR.lt (h : TR w R s q W) : w.heap.size < W.heap.size := (Array.getElem?_eq_some_iff.1 h.out).1
theorem TR.step (h : TR w R s q W) (hr : RdO W' R s q') (hg : W.grownBy W' (some R)) : TR w R s q' W' :=
  have hR := h.hR
  have hl := h.lt
  ⟨hr, grownBy_trans h.grown hg, (hg.block _ hl (fun e => by have := Option.some.inj e; omega)).trans h.out, hR⟩
theorem TR.below (h : TR w R s q W) (hb : Below W.heap.size W W') : TR w R s q W' := h.step (h.rd.below hb) (gb_below hb (some R))
theorem TR.fin {f' : Nat → Option (Tm × Nat)} {o : Option Nat} {t : Tm} {tp rp p : Option Addr} {tc rc c : Nat} (h : TR w R s q W) (hN : TM' W (fun z => w.heap.size + 1 ≤ z) t tp tc rp rc p c) (ho : termO f' o t q) :
    TermRet f' R s o w (.returned (tmV t tp tc rp rc p c)) (((((((((W.setCell ⟨w.heap.size, 0, none⟩ (.int .i64 t.kind)).setCell ⟨w.heap.size, 1, none⟩ (.string t.name)).setCell ⟨w.heap.size, 2, none⟩ (.string t.other)).setCell ⟨w.heap.size, 3, none⟩ (.int .i64 t.n)).setCell ⟨w.heap.size, 4, none⟩ (.int .i64 t.ty.kind)).setCell ⟨w.heap.size, 5, none⟩ (.slice tp t.ty.args.length tc)).setCell ⟨w.heap.size, 6, none⟩ (.int .i64 t.res.kind)).setCell ⟨w.heap.size, 7, none⟩ (.slice rp t.res.args.length rc)).setCell ⟨w.heap.size, 8, none⟩ (.slice p t.args.length c)) :=
  tm_fin h.grown h.hR h.rd hN ho
end
theorem tr_start {w : World} {R : Nat} {s : ByteArray} {q : Option Nat} (hr : RdO w R s q) : TR w R s q (w.alloc (.cells zeroC 29)) := by
  obtain ⟨w0, hw0, hs0, hb0, r0⟩ := box_new w zeroC 29
  rw [hw0]
  exact ⟨hr.below hb0, gb_below hb0 _, r0, hr.lt⟩
set_option maxRecDepth 100000 in
set_option maxHeartbeats 8000000 in
theorem l6zero {f' : Nat → Option (Tm × Nat)} {R : Nat} {s : ByteArray} (D : Int) (o : Option Nat) (w : World) (hr : RdO w R s o) (hc : o = none ∨ 20 < D ∨ ∃ i, o = some i ∧ s.size ≤ i) (ho : ∀ i, o = some i → f' i = none) :
    Calls Tryz.prog 37 #[.pointer (some ⟨R, 0, none⟩), .int .i64 D] w (TermRet f' R s o w) := by
  have hx0 := tr_start hr
  have hfin : termO f' o zeroM none := by
    cases o with
    | none => rfl
    | some i => exact Or.inr ⟨ho i rfl, rfl⟩
  have HFIN := Lib.hid hfin
  have HX0 := Lib.hid hx0
  obtain ⟨i, hi, hrd⟩ := hx0.rd.cells
  have HHI := Lib.hid hi
  clear hr hx0 hfin ho
  go_enter Tryz.func37, Tryz.ntmps37
  cases o with
  | none =>
    obtain ⟨d0, d1, d2, dz1, dz2⟩ := (show Rd _ R s i true from hrd).cells
    have HRD := Lib.hid (show Rd _ R s i true from hrd)
    clear hrd hc
    go_wp2_with fail
    have hx2 : TR w R s none ((w.alloc (.cells zeroC 29)).setCell ⟨R, 2, none⟩ (.bool true)).drew :=
      HX0.out.step ⟨i, HHI.out, (HRD.out.set true).1⟩ (grownBy_trans (HRD.out.set true).2 (gb_drew (grown_refl _ _)))
    have HX2 := Lib.hid hx2
    clear hx2
    go_region
    have hx2 := HX2.out
    clear HX2
    generalize ((w.alloc (.cells #[.int .i64 0, .string ⟨#[]⟩, .string ⟨#[]⟩, .int .i64 0, .int .i64 0, .slice none 0 0, .int .i64 0, .slice none 0 0, .slice none 0 0] 29)).setCell ⟨R, 2, none⟩ (.bool true)).drew = w2 at hx2 ⊢
    clear d0 d1 d2 dz1 dz2
    obtain ⟨i2, hi2, hrd2⟩ := hx2.rd
    obtain ⟨d0, d1, d2, dz1, dz2⟩ := hrd2.cells
    have q0 := cell_of_blk hx2.out 0
    have q1 := cell_of_blk hx2.out 1
    have q2 := cell_of_blk hx2.out 2
    have q3 := cell_of_blk hx2.out 3
    have q4 := cell_of_blk hx2.out 4
    have q5 := cell_of_blk hx2.out 5
    have q6 := cell_of_blk hx2.out 6
    have q7 := cell_of_blk hx2.out 7
    have q8 := cell_of_blk hx2.out 8
    have qz := unfrozen_of_blk hx2.out
    simp only [List.getElem?_toArray, List.getElem?_cons_zero, List.getElem?_cons_succ] at q0 q1 q2 q3 q4 q5 q6 q7 q8
    have HX2 := Lib.hid hx2
    clear hrd2 hx2
    go_wp2_with fail
    refine bodyPost_ret (v := tmV zeroM none 0 none 0 none 0) ?_ rfl ?_
    · rw [results_cell1 rfl]
      go_simp
      all_goals (repeat' apply And.intro) <;> rfl
    · exact HX2.out.fin (t := zeroM) ⟨.nil _ _, .nil _ _, .nil _ _ _ _⟩ HFIN.out
  | some j =>
    obtain ⟨d0, d1, d2, dz1, dz2⟩ := (show Rd _ R s i false from hrd).cells
    have HRD := Lib.hid (show Rd _ R s i false from hrd)
    have hij : i = j := by
      have h1 := hrd.cells.2.1
      have h2 := (show Rd _ R s j false from HX0.out.rd.2).cells.2.1
      rw [h1] at h2
      have := Option.some.inj h2
      injection this with _ h3
      omega
    subst hij
    clear hrd
    by_cases hd : 20 < D
    · have hdd : decide (20 < D) = true := decide_eq_true hd
      clear hc
      go_wp2_with fail
      have hx2 : TR w R s none ((w.alloc (.cells zeroC 29)).setCell ⟨R, 2, none⟩ (.bool true)).drew :=
        HX0.out.step ⟨i, HHI.out, (HRD.out.set true).1⟩ (grownBy_trans (HRD.out.set true).2 (gb_drew (grown_refl _ _)))
      have HX2 := Lib.hid hx2
      clear hx2
      go_region
      have hx2 := HX2.out
      clear HX2
      generalize ((w.alloc (.cells #[.int .i64 0, .string ⟨#[]⟩, .string ⟨#[]⟩, .int .i64 0, .int .i64 0, .slice none 0 0, .int .i64 0, .slice none 0 0, .slice none 0 0] 29)).setCell ⟨R, 2, none⟩ (.bool true)).drew = w2 at hx2 ⊢
      clear d0 d1 d2 dz1 dz2
      obtain ⟨i2, hi2, hrd2⟩ := hx2.rd
      obtain ⟨d0, d1, d2, dz1, dz2⟩ := hrd2.cells
      have q0 := cell_of_blk hx2.out 0
      have q1 := cell_of_blk hx2.out 1
      have q2 := cell_of_blk hx2.out 2
      have q3 := cell_of_blk hx2.out 3
      have q4 := cell_of_blk hx2.out 4
      have q5 := cell_of_blk hx2.out 5
      have q6 := cell_of_blk hx2.out 6
      have q7 := cell_of_blk hx2.out 7
      have q8 := cell_of_blk hx2.out 8
      have qz := unfrozen_of_blk hx2.out
      simp only [List.getElem?_toArray, List.getElem?_cons_zero, List.getElem?_cons_succ] at q0 q1 q2 q3 q4 q5 q6 q7 q8
      have HX2 := Lib.hid hx2
      clear hrd2 hx2
      go_wp2_with fail
      refine bodyPost_ret (v := tmV zeroM none 0 none 0 none 0) ?_ rfl ?_
      · rw [results_cell1 rfl]
        go_simp
        all_goals (repeat' apply And.intro) <;> rfl
      · exact HX2.out.fin (t := zeroM) ⟨.nil _ _, .nil _ _, .nil _ _ _ _⟩ HFIN.out
    · have hge : decide (s.size ≤ i) = true := by
        rcases hc with h | h | ⟨k, h, h2⟩
        · cases h
        · exact absurd h hd
        · cases h; exact decide_eq_true h2
      have hdd : decide (20 < D) = false := decide_eq_false hd
      clear hc
      go_wp2_with fail
      have hx2 : TR w R s none ((w.alloc (.cells zeroC 29)).setCell ⟨R, 2, none⟩ (.bool true)).drew :=
        HX0.out.step ⟨i, HHI.out, (HRD.out.set true).1⟩ (grownBy_trans (HRD.out.set true).2 (gb_drew (grown_refl _ _)))
      have HX2 := Lib.hid hx2
      clear hx2
      go_region
      have hx2 := HX2.out
      clear HX2
      generalize ((w.alloc (.cells #[.int .i64 0, .string ⟨#[]⟩, .string ⟨#[]⟩, .int .i64 0, .int .i64 0, .slice none 0 0, .int .i64 0, .slice none 0 0, .slice none 0 0] 29)).setCell ⟨R, 2, none⟩ (.bool true)).drew = w2 at hx2 ⊢
      clear d0 d1 d2 dz1 dz2
      obtain ⟨i2, hi2, hrd2⟩ := hx2.rd
      obtain ⟨d0, d1, d2, dz1, dz2⟩ := hrd2.cells
      have q0 := cell_of_blk hx2.out 0
      have q1 := cell_of_blk hx2.out 1
      have q2 := cell_of_blk hx2.out 2
      have q3 := cell_of_blk hx2.out 3
      have q4 := cell_of_blk hx2.out 4
      have q5 := cell_of_blk hx2.out 5
      have q6 := cell_of_blk hx2.out 6
      have q7 := cell_of_blk hx2.out 7
      have q8 := cell_of_blk hx2.out 8
      have qz := unfrozen_of_blk hx2.out
      simp only [List.getElem?_toArray, List.getElem?_cons_zero, List.getElem?_cons_succ] at q0 q1 q2 q3 q4 q5 q6 q7 q8
      have HX2 := Lib.hid hx2
      clear hrd2 hx2
      go_wp2_with fail
      refine bodyPost_ret (v := tmV zeroM none 0 none 0 none 0) ?_ rfl ?_
      · rw [results_cell1 rfl]
        go_simp
        all_goals (repeat' apply And.intro) <;> rfl
      · exact HX2.out.fin (t := zeroM) ⟨.nil _ _, .nil _ _, .nil _ _ _ _⟩ HFIN.out
theorem pTm_succ (s : List UInt8) (D i : Nat) : pTm s (D + 1) i = if s.length ≤ i then none else if pre [35, 116] s i then some (mkT 3 [] 1 [], i + 2) else if pre [35, 102] s i then some (mkT 3 [] 0 [], i + 2)
    else if pre [126] s i then (pTm s D (i + 1)).map fun r => (mkT 11 [] 0 [r.1], r.2) else if pre [60] s i then (pts (pTm s D) s [62] (i + 1)).map fun r => (mkT 10 [] 0 r.1, r.2) else if pre [40] s i then pOpen s (pTm s D) (i + 1)
    else if ((s[i]?).map fun c => decide (48 ≤ c.toNat) && decide (c.toNat ≤ 57)) = some true then (if okNum 0 999999 (word s i) then some (mkT 2 [] (rd (word s i)) [], i + (word s i).length) else none) else some (mkT 1 (word s i) 0 [], i + (word s i).length) := by
  conv => lhs; unfold pTm
theorem splice_o {f : Nat → Option (Tm × Nat)} {i : Nat} {t : Tm} {o' : Option Nat} (h : termO f (some i) t o') : termO (fun i => (f i).map fun r => (mkT 11 [] 0 [r.1], r.2)) (some i) (.mk 11 E0 E0 0 Z0 Z0 [t]) o' := by
  rcases h with ⟨j, h, rfl⟩ | ⟨h, rfl⟩
  · exact Or.inl ⟨j, by simp only [h, Option.map_some]; rfl, rfl⟩
  · exact Or.inr ⟨by simp only [h, Option.map_none], rfl⟩
theorem quote_o {f : Nat → Option (Tm × Nat)} {s : List UInt8} {i : Nat} {t : Tm} {o' : Option Nat} (h : termO f (some i) t o') : termO (fun i => (pts f s [62] i).map fun r => (mkT 10 [] 0 r.1, r.2)) (some i) (.mk 10 E0 E0 0 Z0 Z0 [t]) (mustO [62] s o') := by
  rcases h with ⟨j, h, rfl⟩ | ⟨h, rfl⟩
  · by_cases hc : s[j]? = some 62
    · rw [must_yes1 hc]
      exact Or.inl ⟨j + 1, by simp only [pts, h, hc, if_true, Option.map_some]; rfl, rfl⟩
    · rw [must_no1 hc]
      exact Or.inr ⟨by simp only [pts, h, if_neg hc, Option.map_none], rfl⟩
  · rw [must_none]
    exact Or.inr ⟨by simp only [pts, h, Option.map_none], rfl⟩
theorem leaf_ret {W : World} (base : Nat) (k : Int) (a : ByteArray) (n : Int) : TM' W (fun z => base ≤ z) (leaf k a n) none 0 none 0 none 0 := ⟨.nil _ _, .nil _ _, .nil _ _ _ _⟩
set_option maxRecDepth 100000 in
set_option maxHeartbeats 16000000 in
theorem l6step {R : Nat} {s : ByteArray} (hs : s.size ≤ 1073741824) (k : Nat) (D : Int) (hD1 : 1 ≤ D) (hD : D ≤ 20) (IH : TermIs (pTm s.data.toList k) R s (D + 1)) (i : Nat) (hi : i < s.size) (w : World) (hr : Rd w R s i false) :
    Calls Tryz.prog 37 #[.pointer (some ⟨R, 0, none⟩), .int .i64 D] w (TermRet (pTm s.data.toList (k + 1)) R s (some i) w) := by
  have hx0 := tr_start (q := some i) ⟨Nat.le_of_lt hi, hr⟩
  have HX0 := Lib.hid hx0
  have HIH := Lib.hid IH
  have hge : decide (s.size ≤ i) = false := decide_eq_false (by omega)
  have hdd : decide (20 < D) = false := decide_eq_false (by omega)
  have HLEN := Lib.hid (show ¬ s.data.toList.length ≤ i by simpa using hi)
  obtain ⟨d0, d1, d2, dz1, dz2⟩ := (show Rd _ R s i false from hx0.rd.2).cells
  have HRD := Lib.hid (show Rd _ R s i false from hx0.rd.2)
  have HHI := Lib.hid (Nat.le_of_lt hi)
  clear hr hx0 IH
  go_enter Tryz.func37, Tryz.ntmps37
  go_wp2_with fail
  have hx2 : TR w R s (some i) ((w.alloc (.cells zeroC 29)).setCell ⟨R, 2, none⟩ (.bool false)).drew :=
    HX0.out.step ⟨HHI.out, (HRD.out.set false).1⟩ (grownBy_trans (HRD.out.set false).2 (gb_drew (grown_refl _ _)))
  have HX2 := Lib.hid hx2
  clear hx2
  go_region
  have hx2 := HX2.out
  clear HX2
  generalize ((w.alloc (.cells #[.int .i64 0, .string ⟨#[]⟩, .string ⟨#[]⟩, .int .i64 0, .int .i64 0, .slice none 0 0, .int .i64 0, .slice none 0 0, .slice none 0 0] 29)).setCell ⟨R, 2, none⟩ (.bool false)).drew = w2 at hx2 ⊢
  clear d0 d1 d2 dz1 dz2
  clear hge hdd
  obtain ⟨d0, d1, d2, dz1, dz2⟩ := (show Rd w2 R s i false from hx2.rd.2).cells
  have HL0 := Lib.hid hx2
  clear hx2
  have HQ1 := Lib.hid (takeO_any [35, 116] (by decide) hs HL0.out.rd)
  go_wp2_with fail
  refine HQ1.out.mono ?_
  rintro e w21 ⟨rfl, hr1, hg1⟩
  have HL1 := Lib.hid (HL0.out.step hr1 hg1)
  clear hr1 hg1 d0 d1 d2 dz1 dz2
  obtain ⟨bb, hbb⟩ : ∃ b, takes [35, 116] s.data.toList (some i) = b := ⟨_, rfl⟩
  rw [hbb]
  have HBB := Lib.hid hbb
  clear hbb
  cases bb
  rotate_left
  · obtain ⟨j, hji, hyes, htk⟩ := takes_yesq HBB.out
    obtain rfl := Option.some.inj hji
    have hLY := HL1.out
    rw [show takeO [35, 116] s.data.toList (some i) = some (i + 2) from htk] at hLY
    have HLY := Lib.hid hLY
    have HYES := Lib.hid hyes
    clear hLY hyes htk HL1 hji
    have HLF := Lib.hid (fun W => l5Bool_any 1 W)
    go_wp2_with fail
    refine (HLF.out _).mono ?_
    rintro e we ⟨rfl, hbe⟩
    have hx := HLY.out.below hbe
    have q0 := cell_of_blk hx.out 0
    have q1 := cell_of_blk hx.out 1
    have q2 := cell_of_blk hx.out 2
    have q3 := cell_of_blk hx.out 3
    have q4 := cell_of_blk hx.out 4
    have q5 := cell_of_blk hx.out 5
    have q6 := cell_of_blk hx.out 6
    have q7 := cell_of_blk hx.out 7
    have q8 := cell_of_blk hx.out 8
    have qz := unfrozen_of_blk hx.out
    simp only [List.getElem?_toArray, List.getElem?_cons_zero, List.getElem?_cons_succ] at q0 q1 q2 q3 q4 q5 q6 q7 q8
    have HX := Lib.hid hx
    clear hx hbe
    go_wp2_with fail
    refine bodyPost_ret (v := leafV 3 ⟨#[]⟩ 1) ?_ rfl ?_
    · rw [results_cell1 rfl]
      go_simp
      all_goals (repeat' apply And.intro) <;> rfl
    · exact HX.out.fin (t := leaf 3 ⟨#[]⟩ 1) (leaf_ret _ _ _ _) (Or.inl ⟨i + 2, by unfold pTm; rw [if_neg HLEN.out, if_pos HYES.out]; rfl, rfl⟩)
  have hL1b := HL1.out
  rw [(takes_no HBB.out).1] at hL1b
  have HL1b := Lib.hid hL1b
  have HN1 := Lib.hid (takes_no HBB.out).2
  clear hL1b HL1 HBB
  have HQ2 := Lib.hid (takeO_any [35, 102] (by decide) hs HL1b.out.rd)
  go_wp2_with fail
  refine HQ2.out.mono ?_
  rintro e w22 ⟨rfl, hr2, hg2⟩
  have HL2 := Lib.hid (HL1b.out.step hr2 hg2)
  clear hr2 hg2
  obtain ⟨bb, hbb⟩ : ∃ b, takes [35, 102] s.data.toList (some i) = b := ⟨_, rfl⟩
  rw [hbb]
  have HBB := Lib.hid hbb
  clear hbb
  cases bb
  rotate_left
  · obtain ⟨j, hji, hyes, htk⟩ := takes_yesq HBB.out
    obtain rfl := Option.some.inj hji
    have hLY := HL2.out
    rw [show takeO [35, 102] s.data.toList (some i) = some (i + 2) from htk] at hLY
    have HLY := Lib.hid hLY
    have HYES := Lib.hid hyes
    clear hLY hyes htk HL2 hji
    have HLF := Lib.hid (fun W => l5Bool_any 0 W)
    go_wp2_with fail
    refine (HLF.out _).mono ?_
    rintro e we ⟨rfl, hbe⟩
    have hx := HLY.out.below hbe
    have q0 := cell_of_blk hx.out 0
    have q1 := cell_of_blk hx.out 1
    have q2 := cell_of_blk hx.out 2
    have q3 := cell_of_blk hx.out 3
    have q4 := cell_of_blk hx.out 4
    have q5 := cell_of_blk hx.out 5
    have q6 := cell_of_blk hx.out 6
    have q7 := cell_of_blk hx.out 7
    have q8 := cell_of_blk hx.out 8
    have qz := unfrozen_of_blk hx.out
    simp only [List.getElem?_toArray, List.getElem?_cons_zero, List.getElem?_cons_succ] at q0 q1 q2 q3 q4 q5 q6 q7 q8
    have HX := Lib.hid hx
    clear hx hbe
    go_wp2_with fail
    refine bodyPost_ret (v := leafV 3 ⟨#[]⟩ 0) ?_ rfl ?_
    · rw [results_cell1 rfl]
      go_simp
      all_goals (repeat' apply And.intro) <;> rfl
    · exact HX.out.fin (t := leaf 3 ⟨#[]⟩ 0) (leaf_ret _ _ _ _) (Or.inl ⟨i + 2, by unfold pTm; rw [if_neg HLEN.out, if_neg (by rw [HN1.out _ rfl]; decide), if_pos HYES.out]; rfl, rfl⟩)
  have hL2b := HL2.out
  rw [(takes_no HBB.out).1] at hL2b
  have HL2b := Lib.hid hL2b
  have HN2 := Lib.hid (takes_no HBB.out).2
  clear hL2b HL2 HBB
  have HQ3 := Lib.hid (takeO_any [126] (by decide) hs HL2b.out.rd)
  go_wp2_with fail
  refine HQ3.out.mono ?_
  rintro e w3 ⟨rfl, hr3, hg3⟩
  have HL3 := Lib.hid (HL2b.out.step hr3 hg3)
  clear hr3 hg3
  obtain ⟨bb, hbb⟩ : ∃ b, takes [126] s.data.toList (some i) = b := ⟨_, rfl⟩
  rw [hbb]
  have HBB := Lib.hid hbb
  clear hbb
  cases bb
  rotate_left
  · obtain ⟨j, hji, hyes, htk⟩ := takes_yesq HBB.out
    obtain rfl := Option.some.inj hji
    have hLY := HL3.out
    rw [show takeO [126] s.data.toList (some i) = some (i + 1) from htk] at hLY
    have HLY := Lib.hid hLY
    have HYES := Lib.hid hyes
    clear hLY hyes htk HL3 hji
    have HC := Lib.hid (HIH.out _ _ HLY.out.rd)
    go_wp2_with fail
    refine HC.out.mono ?_
    rintro e wa ⟨va, ta, oa, rfl, ⟨tp, tc, rp, rc, p, c, rfl, hN⟩, hoa, hra, hga⟩
    have hxa := HLY.out.step hra hga
    have hxb := hxa.below (al_below wa (.cells (tmC ta tp tc rp rc p c) 29))
    have hlo := HLY.out.lt
    have hrow := rowm_lit (C' := fun z => w.heap.size + 1 ≤ z) hN (fun z hz _ => by have : w3.heap.size ≤ z := hz; omega) (by have := hxa.lt; omega)
    have q0 := cell_of_blk hxb.out 0
    have q1 := cell_of_blk hxb.out 1
    have q2 := cell_of_blk hxb.out 2
    have q3 := cell_of_blk hxb.out 3
    have q4 := cell_of_blk hxb.out 4
    have q5 := cell_of_blk hxb.out 5
    have q6 := cell_of_blk hxb.out 6
    have q7 := cell_of_blk hxb.out 7
    have q8 := cell_of_blk hxb.out 8
    have qz := unfrozen_of_blk hxb.out
    simp only [tmC, List.getElem?_toArray, List.getElem?_cons_zero, List.getElem?_cons_succ] at q0 q1 q2 q3 q4 q5 q6 q7 q8
    have HXB := Lib.hid hxb
    have HROW := Lib.hid hrow
    have HOA := Lib.hid hoa
    clear hxa hxb hrow hoa hra hga hN hlo
    go_wp2_with fail
    refine bodyPost_ret (v := tmV (.mk 11 E0 E0 0 Z0 Z0 [ta]) none 0 none 0 (some ⟨wa.heap.size, 0, none⟩) 1) ?_ rfl ?_
    · rw [results_cell1 rfl]
      go_simp
      all_goals (repeat' apply And.intro) <;> rfl
    · exact HXB.out.fin (t := .mk 11 E0 E0 0 Z0 Z0 [ta]) ⟨.nil _ _, .nil _ _, HROW.out⟩ (termO_at (g := fun i => (pTm s.data.toList k i).map fun r => (mkT 11 [] 0 [r.1], r.2)) (i := i + 1) (by rw [pTm_succ, if_neg HLEN.out, if_neg (by rw [HN1.out _ rfl]; decide), if_neg (by rw [HN2.out _ rfl]; decide), if_pos HYES.out]) (splice_o HOA.out))
  have hL3b := HL3.out
  rw [(takes_no HBB.out).1] at hL3b
  have HL3b := Lib.hid hL3b
  have HN3 := Lib.hid (takes_no HBB.out).2
  clear hL3b HL3 HBB
  have HQ4 := Lib.hid (takeO_any [60] (by decide) hs HL3b.out.rd)
  go_wp2_with fail
  refine HQ4.out.mono ?_
  rintro e w4 ⟨rfl, hr4, hg4⟩
  have HL4 := Lib.hid (HL3b.out.step hr4 hg4)
  clear hr4 hg4
  obtain ⟨bb, hbb⟩ : ∃ b, takes [60] s.data.toList (some i) = b := ⟨_, rfl⟩
  rw [hbb]
  have HBB := Lib.hid hbb
  clear hbb
  cases bb
  rotate_left
  · obtain ⟨j, hji, hyes, htk⟩ := takes_yesq HBB.out
    obtain rfl := Option.some.inj hji
    have hLY := HL4.out
    rw [show takeO [60] s.data.toList (some i) = some (i + 1) from htk] at hLY
    have HLY := Lib.hid hLY
    have HYES := Lib.hid hyes
    clear hLY hyes htk HL4 hji
    have HC := Lib.hid (HIH.out _ _ HLY.out.rd)
    go_wp2_with fail
    refine HC.out.mono ?_
    rintro e wa ⟨va, ta, oa, rfl, ⟨tp, tc, rp, rc, p, c, rfl, hN⟩, hoa, hra, hga⟩
    have hxa := HLY.out.step hra hga
    have hlo := HLY.out.lt
    have hla := hxa.lt
    have hrow0 := rowm_lit (C' := fun z => w.heap.size + 1 ≤ z) hN (fun z hz _ => by have : w4.heap.size ≤ z := hz; omega) (by omega)
    obtain ⟨wb, hwb, hsb, hbb', rb1, rb2⟩ := box_new2 wa (tmC ta tp tc rp rc p c) #[.int .i64 10, .string ⟨#[]⟩, .string ⟨#[]⟩, .int .i64 0, .int .i64 0, .slice none 0 0, .int .i64 0, .slice none 0 0, .slice (some ⟨wa.heap.size, 0, none⟩) 1 1] 29 29
    have hxb := hxa.below hbb'
    have hrow : DM wb (fun z => w.heap.size + 1 ≤ z) (tmD [ta]) (.slice (some ⟨wa.heap.size, 0, none⟩) 1 1) := by
      rw [← hwb]
      exact hrow0.keep (al_below _ _)
    have HXB := Lib.hid hxb
    have HROW := Lib.hid hrow
    have HOA := Lib.hid hoa
    have HWB := Lib.hid hwb
    have HRB2 := Lib.hid rb2
    have HQB := Lib.hid (mustO_any [62] (by decide) hs hxb.rd)
    have HLA := Lib.hid (And.intro hla hsb)
    clear hxa hxb hrow hrow0 hoa hra hga hN hlo hla hwb hbb' rb1 rb2 hsb
    go_wp2_with fail
    rw [HWB.out]
    refine HQB.out.mono ?_
    rintro e wc ⟨rfl, hrc, hgc⟩
    have hxc := HXB.out.step hrc hgc
    have hrc2 : wc.heap[wa.heap.size + 1]? = _ := (hgc.block _ (by have := HLA.out; omega) (fun e => by have := Option.some.inj e; have := HXB.out.hR; have := HLA.out; omega)).trans HRB2.out
    have q0 := cell_of_blk hxc.out 0
    have q1 := cell_of_blk hxc.out 1
    have q2 := cell_of_blk hxc.out 2
    have q3 := cell_of_blk hxc.out 3
    have q4 := cell_of_blk hxc.out 4
    have q5 := cell_of_blk hxc.out 5
    have q6 := cell_of_blk hxc.out 6
    have q7 := cell_of_blk hxc.out 7
    have q8 := cell_of_blk hxc.out 8
    have qz := unfrozen_of_blk hxc.out
    simp only [List.getElem?_toArray, List.getElem?_cons_zero, List.getElem?_cons_succ] at q0 q1 q2 q3 q4 q5 q6 q7 q8
    have r0 := cell_of_blk hrc2 0
    have r1 := cell_of_blk hrc2 1
    have r2 := cell_of_blk hrc2 2
    have r3 := cell_of_blk hrc2 3
    have r4 := cell_of_blk hrc2 4
    have r5 := cell_of_blk hrc2 5
    have r6 := cell_of_blk hrc2 6
    have r7 := cell_of_blk hrc2 7
    have r8 := cell_of_blk hrc2 8
    have rz := unfrozen_of_blk hrc2
    simp only [List.getElem?_toArray, List.getElem?_cons_zero, List.getElem?_cons_succ] at r0 r1 r2 r3 r4 r5 r6 r7 r8
    have HXC := Lib.hid hxc
    have HROWC := Lib.hid (HROW.out.stays (stays_grown hgc (fun z hz => by have := HXB.out.hR; have : w.heap.size + 1 ≤ z := hz; omega)))
    clear hxc hrc hgc hrc2
    go_wp2_with fail
    refine bodyPost_ret (v := tmV (.mk 10 E0 E0 0 Z0 Z0 [ta]) none 0 none 0 (some ⟨wa.heap.size, 0, none⟩) 1) ?_ rfl ?_
    · rw [results_cell1 rfl]
      go_simp
      all_goals (repeat' apply And.intro) <;> rfl
    · exact HXC.out.fin (t := .mk 10 E0 E0 0 Z0 Z0 [ta]) ⟨.nil _ _, .nil _ _, HROWC.out⟩ (termO_at (g := fun i => (pts (pTm s.data.toList k) s.data.toList [62] i).map fun r => (mkT 10 [] 0 r.1, r.2)) (i := i + 1) (by rw [pTm_succ, if_neg HLEN.out, if_neg (by rw [HN1.out _ rfl]; decide), if_neg (by rw [HN2.out _ rfl]; decide), if_neg (by rw [HN3.out _ rfl]; decide), if_pos HYES.out]) (quote_o HOA.out))
  have hL4b := HL4.out
  rw [(takes_no HBB.out).1] at hL4b
  have HL4b := Lib.hid hL4b
  have HN4 := Lib.hid (takes_no HBB.out).2
  clear hL4b HL4 HBB
  have HQ5 := Lib.hid (takeO_any [40] (by decide) hs HL4b.out.rd)
  go_wp2_with fail
  refine HQ5.out.mono ?_
  rintro e w5 ⟨rfl, hr5, hg5⟩
  have HL5 := Lib.hid (HL4b.out.step hr5 hg5)
  clear hr5 hg5
  obtain ⟨bb, hbb⟩ : ∃ b, takes [40] s.data.toList (some i) = b := ⟨_, rfl⟩
  rw [hbb]
  have HBB := Lib.hid hbb
  clear hbb
  cases bb
  rotate_left
  · obtain ⟨j, hji, hyes, htk⟩ := takes_yesq HBB.out
    obtain rfl := Option.some.inj hji
    have hLY := HL5.out
    rw [show takeO [40] s.data.toList (some i) = some (i + 1) from htk] at hLY
    have HLY := Lib.hid hLY
    have HYES := Lib.hid hyes
    clear hLY hyes htk HL5 hji
    have HC := Lib.hid (l6Open_any HIH.out hs _ _ HLY.out.rd)
    go_wp2_with fail
    refine HC.out.mono ?_
    rintro e wa ⟨va, ta, oa, rfl, ⟨tp, tc, rp, rc, p, c, rfl, hN⟩, hoa, hra, hga⟩
    have hxa := HLY.out.step hra hga
    have q0 := cell_of_blk hxa.out 0
    have q1 := cell_of_blk hxa.out 1
    have q2 := cell_of_blk hxa.out 2
    have q3 := cell_of_blk hxa.out 3
    have q4 := cell_of_blk hxa.out 4
    have q5 := cell_of_blk hxa.out 5
    have q6 := cell_of_blk hxa.out 6
    have q7 := cell_of_blk hxa.out 7
    have q8 := cell_of_blk hxa.out 8
    have qz := unfrozen_of_blk hxa.out
    simp only [List.getElem?_toArray, List.getElem?_cons_zero, List.getElem?_cons_succ] at q0 q1 q2 q3 q4 q5 q6 q7 q8
    have HN0 := Lib.hid (hN.mono (C' := fun z => w.heap.size + 1 ≤ z) (fun z hz _ => by have := HLY.out.lt; have : w5.heap.size ≤ z := hz; omega))
    have HXA := Lib.hid hxa
    have HOA := Lib.hid hoa
    clear hxa hoa hra hga hN
    go_wp2_with fail
    refine bodyPost_ret (v := tmV ta tp tc rp rc p c) ?_ rfl ?_
    · rw [results_cell1 rfl]
      go_simp
      all_goals (repeat' apply And.intro) <;> rfl
    · exact HXA.out.fin HN0.out (termO_at (g := pOpen s.data.toList (pTm s.data.toList k)) (i := i + 1) (by rw [pTm_succ, if_neg HLEN.out, if_neg (by rw [HN1.out _ rfl]; decide), if_neg (by rw [HN2.out _ rfl]; decide), if_neg (by rw [HN3.out _ rfl]; decide), if_neg (by rw [HN4.out _ rfl]; decide), if_pos HYES.out]) HOA.out)
  have hL5b := HL5.out
  rw [(takes_no HBB.out).1] at hL5b
  have HL5b := Lib.hid hL5b
  have HN5 := Lib.hid (takes_no HBB.out).2
  clear hL5b HL5 HBB
  obtain ⟨d0, d1, d2, dz1, dz2⟩ := (show Rd w5 R s i false from HL5b.out.rd.2).cells
  have hi0 : (0 : Int) ≤ (i : Int) := by omega
  have hi1 : (i : Int) < (s.size : Int) := by omega
  have HAT := Lib.hid (at_byte hi)
  by_cases b1 : 48 ≤ s[i].toNat
  · have p48 : decide ((48 : Int) ≤ (s[i].toNat : Int)) = true := by simp; omega
    by_cases b2 : s[i].toNat ≤ 57
    · have p57 : decide ((s[i].toNat : Int) ≤ 57) = true := by simp; omega
      have HND := Lib.hid (show (decide (48 ≤ s[i].toNat) && decide (s[i].toNat ≤ 57)) = true by simp [b1, b2])
      clear b1 b2
      go_wp2_with fail
      go_quiet (fail)
      have HLQ := Lib.hid (HL5b.out.step (rdo_drewN HL5b.out.rd nq) (grownBy_drewN (grown_refl _ (some R)) nq))
      generalize w5.drewN nq = w6 at HLQ ⊢
      clear d0 d1 d2 dz1 dz2 p48 p57
      have HNM := Lib.hid (numO_any hs (Nat.le_of_lt hi) HLQ.out.rd.2)
      go_wp2_with fail
      refine HNM.out.mono ?_
      rintro e wa ⟨ta, oa, rfl, hoa, hra, hga⟩
      have hx := HLQ.out.step hra hga
      have q0 := cell_of_blk hx.out 0
      have q1 := cell_of_blk hx.out 1
      have q2 := cell_of_blk hx.out 2
      have q3 := cell_of_blk hx.out 3
      have q4 := cell_of_blk hx.out 4
      have q5 := cell_of_blk hx.out 5
      have q6 := cell_of_blk hx.out 6
      have q7 := cell_of_blk hx.out 7
      have q8 := cell_of_blk hx.out 8
      have qz := unfrozen_of_blk hx.out
      simp only [List.getElem?_toArray, List.getElem?_cons_zero, List.getElem?_cons_succ] at q0 q1 q2 q3 q4 q5 q6 q7 q8
      have HX := Lib.hid hx
      have HOA := Lib.hid hoa
      clear hx hra hga hoa
      go_wp2_with fail
      refine bodyPost_ret (v := leafV ta.kind ta.name ta.n) ?_ rfl ?_
      · rw [results_cell1 rfl]
        go_simp
        all_goals (repeat' apply And.intro) <;> rfl
      · have hd : ((s.data.toList[i]?).map fun c => decide (48 ≤ c.toNat) && decide (c.toNat ≤ 57)) = some true := by
          rw [HAT.out]
          simp only [Option.map_some, HND.out]
        refine HX.out.fin (t := leaf ta.kind ta.name ta.n) (leaf_ret _ _ _ _) ?_
        rcases HOA.out with ⟨h1, rfl, rfl⟩ | ⟨h1, rfl, rfl⟩
        · refine Or.inl ⟨_, ?_, rfl⟩
          unfold pTm
          rw [if_neg HLEN.out, if_neg (by rw [HN1.out _ rfl]; decide), if_neg (by rw [HN2.out _ rfl]; decide), if_neg (by rw [HN3.out _ rfl]; decide), if_neg (by rw [HN4.out _ rfl]; decide), if_neg (by rw [HN5.out _ rfl]; decide), if_pos hd, if_pos h1]
          rfl
        · refine Or.inr ⟨?_, rfl⟩
          unfold pTm
          rw [if_neg HLEN.out, if_neg (by rw [HN1.out _ rfl]; decide), if_neg (by rw [HN2.out _ rfl]; decide), if_neg (by rw [HN3.out _ rfl]; decide), if_neg (by rw [HN4.out _ rfl]; decide), if_neg (by rw [HN5.out _ rfl]; decide), if_pos hd, if_neg (by rw [h1]; decide)]
    · have p57 : decide ((s[i].toNat : Int) ≤ 57) = false := by simp; omega
      have HND := Lib.hid (show (decide (48 ≤ s[i].toNat) && decide (s[i].toNat ≤ 57)) = false by simp; omega)
      clear b1 b2
      go_wp2_with fail
      go_quiet (fail)
      have HLQ := Lib.hid (HL5b.out.step (rdo_drewN HL5b.out.rd nq) (grownBy_drewN (grown_refl _ (some R)) nq))
      generalize w5.drewN nq = w6 at HLQ ⊢
      clear d0 d1 d2 dz1 dz2 p48 p57
      have HWD := Lib.hid (wordO_any hs HLQ.out.rd)
      go_wp2_with fail
      refine HWD.out.mono ?_
      rintro e wa ⟨a, rfl, hal, ha, hra, hga⟩
      have HXA := Lib.hid (HLQ.out.step hra hga)
      have HA := Lib.hid (ha _ rfl)
      have HLF := Lib.hid (fun W => l5Var_any (bx a) W)
      clear hra hga ha
      go_wp2_with fail
      refine (HLF.out _).mono ?_
      rintro e we ⟨rfl, hbe⟩
      have hx := HXA.out.below hbe
      have q0 := cell_of_blk hx.out 0
      have q1 := cell_of_blk hx.out 1
      have q2 := cell_of_blk hx.out 2
      have q3 := cell_of_blk hx.out 3
      have q4 := cell_of_blk hx.out 4
      have q5 := cell_of_blk hx.out 5
      have q6 := cell_of_blk hx.out 6
      have q7 := cell_of_blk hx.out 7
      have q8 := cell_of_blk hx.out 8
      have qz := unfrozen_of_blk hx.out
      simp only [List.getElem?_toArray, List.getElem?_cons_zero, List.getElem?_cons_succ] at q0 q1 q2 q3 q4 q5 q6 q7 q8
      have HX := Lib.hid hx
      clear hx hbe
      go_wp2_with fail
      refine bodyPost_ret (v := leafV 1 (bx a) 0) ?_ rfl ?_
      · rw [results_cell1 rfl]
        go_simp
        all_goals (repeat' apply And.intro) <;> rfl
      · refine HX.out.fin (t := leaf 1 (bx a) 0) (leaf_ret _ _ _ _) (Or.inl ⟨_, ?_, rfl⟩)
        have hnd : ¬ ((s.data.toList[i]?).map fun c => decide (48 ≤ c.toNat) && decide (c.toNat ≤ 57)) = some true := by
          rw [HAT.out]
          simp only [Option.map_some, HND.out]
          decide
        rw [HA.out]
        unfold pTm
        rw [if_neg HLEN.out, if_neg (by rw [HN1.out _ rfl]; decide), if_neg (by rw [HN2.out _ rfl]; decide), if_neg (by rw [HN3.out _ rfl]; decide), if_neg (by rw [HN4.out _ rfl]; decide), if_neg (by rw [HN5.out _ rfl]; decide), if_neg hnd]
        rfl
  · have p48 : decide ((48 : Int) ≤ (s[i].toNat : Int)) = false := by simp; omega
    have HND := Lib.hid (show (decide (48 ≤ s[i].toNat) && decide (s[i].toNat ≤ 57)) = false by simp; omega)
    clear b1
    go_wp2_with fail
    go_quiet (fail)
    have HLQ := Lib.hid (HL5b.out.step (rdo_drewN HL5b.out.rd nq) (grownBy_drewN (grown_refl _ (some R)) nq))
    generalize w5.drewN nq = w6 at HLQ ⊢
    clear d0 d1 d2 dz1 dz2 p48
    have HWD := Lib.hid (wordO_any hs HLQ.out.rd)
    go_wp2_with fail
    refine HWD.out.mono ?_
    rintro e wa ⟨a, rfl, hal, ha, hra, hga⟩
    have HXA := Lib.hid (HLQ.out.step hra hga)
    have HA := Lib.hid (ha _ rfl)
    have HLF := Lib.hid (fun W => l5Var_any (bx a) W)
    clear hra hga ha
    go_wp2_with fail
    refine (HLF.out _).mono ?_
    rintro e we ⟨rfl, hbe⟩
    have hx := HXA.out.below hbe
    have q0 := cell_of_blk hx.out 0
    have q1 := cell_of_blk hx.out 1
    have q2 := cell_of_blk hx.out 2
    have q3 := cell_of_blk hx.out 3
    have q4 := cell_of_blk hx.out 4
    have q5 := cell_of_blk hx.out 5
    have q6 := cell_of_blk hx.out 6
    have q7 := cell_of_blk hx.out 7
    have q8 := cell_of_blk hx.out 8
    have qz := unfrozen_of_blk hx.out
    simp only [List.getElem?_toArray, List.getElem?_cons_zero, List.getElem?_cons_succ] at q0 q1 q2 q3 q4 q5 q6 q7 q8
    have HX := Lib.hid hx
    clear hx hbe
    go_wp2_with fail
    refine bodyPost_ret (v := leafV 1 (bx a) 0) ?_ rfl ?_
    · rw [results_cell1 rfl]
      go_simp
      all_goals (repeat' apply And.intro) <;> rfl
    · refine HX.out.fin (t := leaf 1 (bx a) 0) (leaf_ret _ _ _ _) (Or.inl ⟨_, ?_, rfl⟩)
      have hnd : ¬ ((s.data.toList[i]?).map fun c => decide (48 ≤ c.toNat) && decide (c.toNat ≤ 57)) = some true := by
        rw [HAT.out]
        simp only [Option.map_some, HND.out]
        decide
      rw [HA.out]
      unfold pTm
      rw [if_neg HLEN.out, if_neg (by rw [HN1.out _ rfl]; decide), if_neg (by rw [HN2.out _ rfl]; decide), if_neg (by rw [HN3.out _ rfl]; decide), if_neg (by rw [HN4.out _ rfl]; decide), if_neg (by rw [HN5.out _ rfl]; decide), if_neg hnd]
      rfl
theorem l6term_any (R : Nat) (s : ByteArray) (hs : s.size ≤ 1073741824) : ∀ (k : Nat), k ≤ 20 → TermIs (pTm s.data.toList k) R s (21 - (k : Int))
  | 0, _, o, W, hr => l6zero _ o W hr (Or.inr (Or.inl (by omega))) (fun _ _ => rfl)
  | k + 1, hk, o, W, hr => by
    cases o with
    | none => exact l6zero _ none W hr (Or.inl rfl) (fun _ h => by cases h)
    | some i =>
      by_cases hi : i < s.size
      · have IH := l6term_any R s hs k (by omega)
        rw [show (21 - (k : Int)) = 21 - ((k + 1 : Nat) : Int) + 1 by omega] at IH
        exact l6step hs k _ (by omega) (by omega) IH i hi W hr.2
      · refine l6zero _ (some i) W hr (Or.inr (Or.inr ⟨i, rfl, by omega⟩)) (fun j h => ?_)
        cases h
        unfold pTm
        rw [if_pos (by simp; omega)]
theorem parseTermS_full (s : ByteArray) (hs : s.size ≤ 1048576) (w : World) : Calls Tryz.prog 14 #[.string s] w (MParsed s.data.toList w) :=
  parseTermS_any s hs (fun R => l6term_any R s (by omega) 20 (Nat.le_refl _)) w
end Go.Proofs.YtjobmgbchpoheaaGreatDoor
namespace Go.Proofs.YtjobmgbchpoheaaGreatDoor
open Go Go.RowKit
def mk (k : Nat) : ByteArray := ⟨(109 :: Lib.decDigits k).toArray⟩
def marks (k n : Nat) : List ByteArray := (List.range n).map fun j => mk (k + j)
def Marked (xs : List ByteArray) (k j : Nat) : List Value := (marks k j).map Value.string ++ (xs.drop j).map Value.string
end Go.Proofs.YtjobmgbchpoheaaGreatDoor
namespace Go.Proofs.YtjobmgbchpoheaaGreatDoor
open Go Go.RowKit

mutual
def Tm.cnt : Tm → Nat
  | .mk _ _ _ _ t r ts => 6 + nodesS t.args + nodesS r.args + cntM ts
def cntM : List Tm → Nat
  | [] => 0
  | t :: ts => t.cnt + cntM ts
end
mutual
def Tm.mark : Nat → Tm → Tm
  | k, .mk _ _ _ _ t r ts => .mk (k : Nat) (Go.Proofs.YtjobmgbchpoheaaGreatDoor.mk (k + 1)) (Go.Proofs.YtjobmgbchpoheaaGreatDoor.mk (k + 2)) ((k + 3 : Nat) : Int) (.mk ((k + 4 : Nat) : Int) (markS (k + 5) t.args)) (.mk ((k + 5 + nodesS t.args : Nat) : Int) (markS (k + 6 + nodesS t.args) r.args)) (markM (k + 6 + nodesS t.args + nodesS r.args) ts)
def markM : Nat → List Tm → List Tm
  | _, [] => []
  | k, t :: ts => t.mark k :: markM (k + t.cnt) ts
end
def cellD (V : Nat → Value) (es : List D) (i : Nat) : Value := match es[i]? with
  | some (.cell u) => u
  | _ => V i
structure MInvD (w0 w wr : World) (T : TypeId) (N b L : Nat) (V : Nat → Value) (G : Nat → Nat → Prop) (F : Nat → Prop) (es : List D) (m : Nat) : Prop where
  blk : ∃ cur : Array Value, wr.heap[b]? = some (.cells cur T (0, 0)) ∧ cur.size = L ∧ ∀ i, i < N → cur[i]? = some (if i < m then cellD V es i else V i)
  done : ∀ i d, i < m → es[i]? = some d → DO wr d (cellD V es i) (G i)
  rest : ∀ i, m ≤ i → i < N → Stays (G i) w0 wr
  but : But F w wr
section
variable {w0 w wr w2 : World} {T : TypeId} {N b L : Nat} {V : Nat → Value} {G : Nat → Nat → Prop} {F : Nat → Prop} {es : List D} {m : Nat}
end

def MarkedM (ts : List Tm) (v : Value) (F : Nat → Prop) (k : Nat) (w : World) (e : Ending) (w' : World) : Prop :=
  e = .returned (.int .i64 ((k + cntM ts : Nat) : Int)) ∧ DO w' (tmD (markM k ts)) v F ∧ But F w w'
end Go.Proofs.YtjobmgbchpoheaaGreatDoor
namespace Go.Proofs.YtjobmgbchpoheaaGreatDoor
open Go Go.RowKit

end Go.Proofs.YtjobmgbchpoheaaGreatDoor
namespace Go.Proofs.YtjobmgbchpoheaaGreatDoor
open Go Go.RowKit
def Tm.cntT (t : Tm) : Nat := nodesS t.ty.args + nodesS t.res.args + cntM t.args
def Tm.markT (k : Nat) (t : Tm) : Tm := .mk t.kind t.name t.other t.n (.mk t.ty.kind (markS k t.ty.args)) (.mk t.res.kind (markS (k + nodesS t.ty.args) t.res.args)) (markM (k + nodesS t.ty.args + nodesS t.res.args) t.args)
end Go.Proofs.YtjobmgbchpoheaaGreatDoor
namespace Go.Proofs.YtjobmgbchpoheaaGreatDoor
open Go Go.RowKit

theorem keepN {W w1 : World} {p : Addr} {v : Value} (hb1 : Below W.heap.size W w1) (h : W.cell? p = some v) : w1.cell? p = some v := (hb1.cell (World.block_lt_of_cell? W _ h)).trans h
end Go.Proofs.YtjobmgbchpoheaaGreatDoor
namespace Go.Proofs.YtjobmgbchpoheaaGreatDoor
open Go Go.RowKit

theorem parsed_wt {s : List UInt8} {t : Tm} {o : Bool} (h : ParsedAs s t o) : t.wt ≤ s.length := by
  rcases h with ⟨_, h⟩ | ⟨_, rfl, _⟩
  · have := pTm_wt s 20 0 t s.length (parseM_pTm h)
    omega
  · have : zeroM.wt = 0 := by rfl
    omega
end Go.Proofs.YtjobmgbchpoheaaGreatDoor
