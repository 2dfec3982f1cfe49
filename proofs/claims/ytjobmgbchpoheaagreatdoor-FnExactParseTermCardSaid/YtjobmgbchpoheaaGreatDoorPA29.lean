/-
  Several texts of the proof in one (each says below what it holds): RdK RdI5 RdI6.
-/
import Derived.Test.YtjobmgbchpoheaaGreatDoorPA12
import Derived.Test.YtjobmgbchpoheaaGreatDoorPA24
namespace Go.Proofs.YtjobmgbchpoheaaGreatDoor
open Go Go.RowKit

theorem ptys_wt {f : Nat → Option (Ty × Nat)} {s : List UInt8} (hf : ∀ i t j, f i = some (t, j) → i + t.nodes ≤ j) : ∀ (es : List UInt8) (i : Nat) (ts : List Ty) (j : Nat), ptys f s es i = some (ts, j) → i + nodesS ts ≤ j
  | [], i, ts, j, h => by
    simp only [ptys, Option.some.injEq, Prod.mk.injEq] at h
    obtain ⟨rfl, rfl⟩ := h
    simp [nodesS]
  | e :: es, i, ts, j, h => by
    simp only [ptys] at h
    cases h1 : f i with
    | none => rw [h1] at h; cases h
    | some r =>
      obtain ⟨t, k⟩ := r
      rw [h1] at h
      dsimp only at h
      split at h
      · cases h2 : ptys f s es (k + 1) with
        | none => rw [h2] at h; cases h
        | some r2 =>
          obtain ⟨us, l⟩ := r2
          rw [h2] at h
          simp only [Option.map_some, Option.some.injEq, Prod.mk.injEq] at h
          obtain ⟨rfl, rfl⟩ := h
          have a := hf _ _ _ h1
          have b := ptys_wt hf _ _ _ _ h2
          simp only [nodesS]
          omega
      · cases h
theorem pty_wt (s : List UInt8) : ∀ (k i : Nat) (t : Ty) (j : Nat), pty s k i = some (t, j) → i + t.nodes ≤ j
  | 0, i, t, j, h => by cases h
  | k + 1, i, t, j, h => by
    have two : ∀ (kd : Int) (es : List UInt8), (ptys (pty s k) s es (i + 1)).map (fun r => (Ty.mk kd r.1, r.2)) = some (t, j) → i + t.nodes ≤ j := by
      intro kd es h
      cases h2 : ptys (pty s k) s es (i + 1) with
      | none => rw [h2] at h; cases h
      | some r =>
        rw [h2] at h
        simp only [Option.map_some, Option.some.injEq, Prod.mk.injEq] at h
        obtain ⟨rfl, rfl⟩ := h
        have := ptys_wt (pty_wt s k) _ _ _ _ h2
        simp only [Ty.nodes]
        omega
    unfold pty at h
    split at h
    · simp only [Option.some.injEq, Prod.mk.injEq] at h
      obtain ⟨rfl, rfl⟩ := h
      simp [Ty.nodes, nodesS]
    · split at h
      · simp only [Option.some.injEq, Prod.mk.injEq] at h
        obtain ⟨rfl, rfl⟩ := h
        simp [Ty.nodes, nodesS]
      · split at h
        · exact two 3 _ h
        · split at h
          · exact two 4 _ h
          · cases h
theorem pts_wt {f : Nat → Option (Tm × Nat)} {s : List UInt8} (hf : ∀ i t j, f i = some (t, j) → i + t.wt ≤ j) : ∀ (es : List UInt8) (i : Nat) (ts : List Tm) (j : Nat), pts f s es i = some (ts, j) → i + wtS ts ≤ j
  | [], i, ts, j, h => by
    simp only [pts, Option.some.injEq, Prod.mk.injEq] at h
    obtain ⟨rfl, rfl⟩ := h
    simp [wtS]
  | e :: es, i, ts, j, h => by
    simp only [pts] at h
    cases h1 : f i with
    | none => rw [h1] at h; cases h
    | some r =>
      obtain ⟨t, k⟩ := r
      rw [h1] at h
      dsimp only at h
      split at h
      · cases h2 : pts f s es (k + 1) with
        | none => rw [h2] at h; cases h
        | some r2 =>
          obtain ⟨us, l⟩ := r2
          rw [h2] at h
          simp only [Option.map_some, Option.some.injEq, Prod.mk.injEq] at h
          obtain ⟨rfl, rfl⟩ := h
          have a := hf _ _ _ h1
          have b := pts_wt hf _ _ _ _ h2
          simp only [wtS]
          omega
      · cases h
theorem pmap_wt {f : Nat → Option (Tm × Nat)} {s es : List UInt8} (hf : ∀ i t j, f i = some (t, j) → i + t.wt ≤ j) {i j : Nat} {t : Tm} {g : List Tm → Tm} {m : Nat} (hg : ∀ ts, (g ts).wt ≤ m + wtS ts)
    (h : (pts f s es i).map (fun r => (g r.1, r.2)) = some (t, j)) : i + t.wt ≤ j + m := by
  cases h2 : pts f s es i with
  | none => rw [h2] at h; cases h
  | some r =>
    rw [h2] at h
    simp only [Option.map_some, Option.some.injEq, Prod.mk.injEq] at h
    obtain ⟨rfl, rfl⟩ := h
    have := pts_wt hf _ _ _ _ h2
    have := hg r.1
    omega
theorem sz_list (l : List UInt8) : (⟨l.toArray⟩ : ByteArray).size = l.length := by
  show l.toArray.size = _
  simp
theorem mkT_wt (k : Int) (a : List UInt8) (n : Int) (ts : List Tm) : (mkT k a n ts).wt = a.length + wtS ts := by
  show (⟨a.toArray⟩ : ByteArray).size + 0 + 0 + 0 + wtS ts = _
  rw [sz_list]
  omega
theorem mk_wt (k : Int) (a b : List UInt8) (n : Int) (ty res : Ty) (ts : List Tm) : (Tm.mk k ⟨a.toArray⟩ ⟨b.toArray⟩ n ty res ts).wt = a.length + b.length + nodesS ty.args + nodesS res.args + wtS ts := by
  show (⟨a.toArray⟩ : ByteArray).size + (⟨b.toArray⟩ : ByteArray).size + nodesS ty.args + nodesS res.args + wtS ts = _
  rw [sz_list, sz_list]
theorem pOpen_wt {f : Nat → Option (Tm × Nat)} {s : List UInt8} (hf : ∀ i t j, f i = some (t, j) → i + t.wt ≤ j) {i j : Nat} {t : Tm} (h : pOpen s f i = some (t, j)) : i + t.wt ≤ j + 1 := by
  have ty1 : ∀ (k i j : Nat) (u : Ty), pty s k i = some (u, j) → i + 1 + nodesS u.args ≤ j := fun k i j u h => by
    have := pty_wt s _ _ _ _ h
    rw [u.nodes_eq] at this
    omega
  unfold pOpen at h
  split at h
  · unfold pLam at h
    split at h
    · split at h
      · cases h
      · next ty j1 hp =>
        split at h
        · have a := ty1 _ _ _ _ hp
          have b := pmap_wt hf (m := (word s (i + 1)).length + nodesS ty.args) (fun ts => by rw [mk_wt _ _ []]; simp [nodesS, Ty.args]) h
          omega
        · cases h
    · cases h
  · split at h
    · unfold pLet at h
      split at h
      · have b := pmap_wt hf (m := (word s (i + 4)).length) (fun ts => by rw [mkT_wt]; exact Nat.le_refl _) h
        omega
      · cases h
    · split at h
      · unfold pRec at h
        split at h
        · unfold pRec2 at h
          split at h
          · split at h
            · cases h
            · next ty j1 hp =>
              split at h
              · split at h
                · cases h
                · next res j2 hp2 =>
                  split at h
                  · have a := ty1 _ _ _ _ hp
                    have a2 := ty1 _ _ _ _ hp2
                    have b := pmap_wt hf (fun ts => by rw [mk_wt]; exact Nat.le_refl _) h
                    omega
                  · cases h
              · cases h
          · cases h
        · cases h
      · split at h
        · have b := pmap_wt hf (m := 0) (fun ts => by rw [mkT_wt]; simp) h
          omega
        · split at h
          · have b := pmap_wt hf (m := 0) (fun ts => by rw [mkT_wt]; simp) h
            omega
          · split at h
            · have b := pmap_wt hf (m := 0) (fun ts => by rw [mkT_wt]; simp) h
              omega
            · split at h
              · have b := pmap_wt hf (m := 1) (fun ts => by rw [mkT_wt]; simp) h
                omega
              · split at h
                · cases h
                · next x j1 hx =>
                  have a := hf _ _ _ hx
                  unfold pRest at h
                  split at h
                  · have b := pmap_wt hf (g := fun ts => mkT 7 [] 0 (x :: ts)) (m := 1 + x.wt) (fun ts => by show (mkT 7 [] 0 (x :: ts)).wt ≤ _; rw [mkT_wt]; show 0 + (1 + x.wt + wtS ts) ≤ _; omega) h
                    omega
                  · split at h
                    · cases h
                    · next c hc =>
                      split at h
                      · have b := pmap_wt hf (g := fun ts => mkT 4 [c] 0 (x :: ts)) (m := 2 + x.wt) (fun ts => by show (mkT 4 [c] 0 (x :: ts)).wt ≤ _; rw [mkT_wt]; show 1 + (1 + x.wt + wtS ts) ≤ _; omega) h
                        omega
                      · cases h
theorem pTm_wt (s : List UInt8) : ∀ (D i : Nat) (t : Tm) (j : Nat), pTm s D i = some (t, j) → i + t.wt ≤ j
  | 0, i, t, j, h => by cases h
  | D + 1, i, t, j, h => by
    have hf := pTm_wt s D
    unfold pTm at h
    split at h
    · cases h
    · split at h
      · simp only [Option.some.injEq, Prod.mk.injEq] at h
        obtain ⟨rfl, rfl⟩ := h
        rw [mkT_wt]; simp [wtS]
      · split at h
        · simp only [Option.some.injEq, Prod.mk.injEq] at h
          obtain ⟨rfl, rfl⟩ := h
          rw [mkT_wt]; simp [wtS]
        · split at h
          · cases h2 : pTm s D (i + 1) with
            | none => rw [h2] at h; cases h
            | some r =>
              rw [h2] at h
              simp only [Option.map_some, Option.some.injEq, Prod.mk.injEq] at h
              obtain ⟨rfl, rfl⟩ := h
              have := hf _ _ _ h2
              rw [mkT_wt]; simp only [wtS, List.length_nil]; omega
          · split at h
            · have b := pmap_wt hf (m := 0) (fun ts => by rw [mkT_wt]; simp) h
              omega
            · split at h
              · have := pOpen_wt hf h
                omega
              · split at h
                · split at h
                  · simp only [Option.some.injEq, Prod.mk.injEq] at h
                    obtain ⟨rfl, rfl⟩ := h
                    rw [mkT_wt]; simp [wtS]
                  · cases h
                · simp only [Option.some.injEq, Prod.mk.injEq] at h
                  obtain ⟨rfl, rfl⟩ := h
                  rw [mkT_wt]; simp [wtS]
end Go.Proofs.YtjobmgbchpoheaaGreatDoor
namespace Go.Proofs.YtjobmgbchpoheaaGreatDoor
open Go Go.RowKit

theorem small_wrest {l : List UInt8} (h : Small l) : Small (wrest l) := by
  have := wd_len l
  unfold Small at *; omega
theorem small_cut {q l : List UInt8} (h : Small l) : Small (cut q l) := by
  have := cut_le q l
  unfold Small at *; omega
theorem small_wd {l : List UInt8} (h : Small l) : (bx (wd l)).size ≤ 2097152 := by
  have := wd_len l
  rw [bsz]
  unfold Small at h; omega
set_option maxRecDepth 100000 in
set_option maxHeartbeats 2000000 in
theorem let_any {F : RdF} (hF : Bd F) {R FB : Nat} {E : Nat → Nat} {k0 : Nat} (hOk : TermOk F R FB E k0) (l : List UInt8) (k : Nat) (w : World) (hk0 : k0 ≤ k) (hP : Pot k 998) (hl : Small l) (hr : Rdr R FB E l k w) :
    Calls Tryz.prog 54 #[.pointer (some ⟨R, 0, none⟩)] w (FormRet (rdLet F) R FB E w.heap.size l k w) := by
  obtain ⟨w0, hw0, hs0, hb0, r0⟩ := box_new w zeroC 29
  have hr0 := hr.below hb0
  have HU := Lib.hid hr.under
  have hub : Rdr.Under R FB E (w.heap.size + 1) := ⟨by have := hr.lt; omega, by have := hr.ltF; omega, fun i hi => by have := hr.ltE i hi; omega⟩
  have HUB := Lib.hid hub
  have HB0 := Lib.hid hb0
  have R0 := Lib.hid r0
  have HS0 := Lib.hid hs0
  have HN := Lib.hid (name_any [61] hl hr0)
  have HA := Lib.hid (fun (W : World) (h : Rdr R FB E (cut [61] (wrest l)) k W) (hz : w.heap.size + 1 ≤ W.heap.size) => args_any hF hOk 8 (bx (wd l)) E0 0 Z0 Z0 none 0 none 0 (w.heap.size + 1) (fun _ => False) (fun _ => False) (cut [61] (wrest l)) k W hk0 hP (small_cut (small_wrest hl)) h HUB.out hz (by decide) (small_wd hl) (by decide) (by decide) (by decide) (os_nil _ _) (os_nil _ _) (fun z hz => hz.elim) (fun z hz => hz.elim))
  clear hr hr0 hub hb0 r0 hs0
  go_enter Tryz.func54, Tryz.ntmps54
  go_wp2_with fail
  refine HN.out.mono ?_
  rintro e w1 ⟨rfl, hr1, hg1⟩
  have RO := Lib.hid ((hg1.block w.heap.size (by have := HS0.out; omega) (fun e => by have := HU.out.1; have := Option.some.inj e; omega)).trans R0.out)
  have HC := Lib.hid (HA.out w1 hr1 (by have := HS0.out; have := hg1.size; omega))
  have HG := Lib.hid (grownBy_trans (gb_below HB0.out _) hg1)
  have HG1 := Lib.hid hg1
  clear hr1 hg1
  go_wp2_with fail
  refine HC.out.mono ?_
  rintro e w9 ⟨hg9, x, k9, l9, v9, rfl, hR9, ⟨tp, tc, rp, rc, p, c, rfl, hO9⟩, hr9⟩
  have hgw := grownBy_trans HG.out hg9
  have hro := (hg9.block w.heap.size (by have := HS0.out; have := HG1.out.size; omega) (fun e => by have := HU.out.1; have := Option.some.inj e; omega)).trans RO.out
  have r0 := cell_of_blk hro 0
  have r1 := cell_of_blk hro 1
  have r2 := cell_of_blk hro 2
  have r3 := cell_of_blk hro 3
  have r4 := cell_of_blk hro 4
  have r5 := cell_of_blk hro 5
  have r6 := cell_of_blk hro 6
  have r7 := cell_of_blk hro 7
  have r8 := cell_of_blk hro 8
  have rz := unfrozen_of_blk hro
  simp only [List.getElem?_toArray, List.getElem?_cons_zero, List.getElem?_cons_succ] at r0 r1 r2 r3 r4 r5 r6 r7 r8
  have HX := Lib.hid (And.intro hgw (And.intro hR9 (And.intro hO9 hr9)))
  clear hg9 hgw hR9 hO9 hr9 hro
  go_wp2_with fail
  obtain ⟨hg1, hR1, hO1, hr1⟩ := HX.out
  refine bodyPost_ret (v := tmV x tp tc rp rc p c) ?_ rfl ?_
  · rw [results_cell1 rfl]
    go_simp
    all_goals (repeat' apply And.intro) <;> rfl
  · exact form_out HU.out hg1 hR1 hO1 hr1
set_option maxRecDepth 100000 in
set_option maxHeartbeats 2000000 in
theorem lam_any {F : RdF} (hF : Bd F) {R FB : Nat} {E : Nat → Nat} {k0 : Nat} (hOk : TermOk F R FB E k0) (l : List UInt8) (k : Nat) (w : World) (hk0 : k0 ≤ k) (hP : Pot k 998) (hl : Small l) (hr : Rdr R FB E l k w) :
    Calls Tryz.prog 56 #[.pointer (some ⟨R, 0, none⟩)] w (FormRet (rdLam F) R FB E w.heap.size l k w) := by
  obtain ⟨w0, hw0, hs0, hb0, r0⟩ := box_new w zeroC 29
  have hr0 := hr.below hb0
  have HU := Lib.hid hr.under
  have hub : Rdr.Under R FB E (w.heap.size + 1) := ⟨by have := hr.lt; omega, by have := hr.ltF; omega, fun i hi => by have := hr.ltE i hi; omega⟩
  have HUB := Lib.hid hub
  have HB0 := Lib.hid hb0
  have R0 := Lib.hid r0
  have HS0 := Lib.hid hs0
  have HN := Lib.hid (name_any [58] hl hr0)
  have HT := Lib.hid (fun (W : World) (h : Rdr R FB E (cut [58] (wrest l)) k W) => type_any [46] (small_cut (small_wrest hl)) h)
  have HA := Lib.hid (fun (ty : Ty) (tp : Option Addr) (tc : Nat) (l2 : List UInt8) (b : Nat) (W : World) (h : Rdr R FB E l2 k W) (hl2 : Small l2) (hn : nodesS ty.args ≤ 512) (hb : w.heap.size + 1 ≤ b) (hbW : b ≤ W.heap.size) (ho : OS W ty.args (.slice tp ty.args.length tc) (fun z => b ≤ z ∧ z < W.heap.size)) =>
    args_any hF hOk 6 (bx (wd l)) E0 0 ty Z0 tp tc none 0 (w.heap.size + 1) (fun z => b ≤ z ∧ z < W.heap.size) (fun _ => False) l2 k W hk0 hP hl2 h HUB.out (by omega) (by decide) (small_wd hl) (by decide) (by omega) (by decide) ho (os_nil _ _) (fun z hz => ⟨by omega, hz.2, fun h => h⟩) (fun z hz => hz.elim))
  clear hr hr0 hub hb0 r0 hs0
  go_enter Tryz.func56, Tryz.ntmps56
  go_wp2_with fail
  refine HN.out.mono ?_
  rintro e w1 ⟨rfl, hr1, hg1⟩
  have HT1 := Lib.hid (HT.out w1 hr1)
  have HG1 := Lib.hid hg1
  clear hr1 hg1
  go_wp2_with fail
  refine HT1.out.mono ?_
  rintro e w2 ⟨ty, p2, c2, l2, rfl, ht2, ho2, hr2, hg2⟩
  obtain ⟨hn2, hle2⟩ := rdTy_bd ht2
  have hs1 := HG1.out.size
  have hgg := grownBy_trans HG1.out hg2
  have RO := Lib.hid ((hgg.block w.heap.size (by have := HS0.out; omega) (fun e => by have := HU.out.1; have := Option.some.inj e; omega)).trans R0.out)
  have HC := Lib.hid (HA.out ty p2 c2 l2 w1.heap.size w2 hr2 (by have := small_cut (q := [58]) (small_wrest hl); unfold Small at *; omega) hn2 (by have := HS0.out; omega) hg2.size ho2)
  have HG := Lib.hid (grownBy_trans (gb_below HB0.out _) hgg)
  have HGG := Lib.hid hgg
  have HT2 := Lib.hid ht2
  clear hr2 hg2 hgg ht2 ho2 hle2 hs1
  go_wp2_with fail
  refine HC.out.mono ?_
  rintro e w9 ⟨hg9, x, k9, l9, v9, rfl, hR9, ⟨tp, tc, rp, rc, p, c, rfl, hO9⟩, hr9⟩
  have hgw := grownBy_trans HG.out hg9
  have hro := (hg9.block w.heap.size (by have := HS0.out; have := HGG.out.size; omega) (fun e => by have := HU.out.1; have := Option.some.inj e; omega)).trans RO.out
  have r0 := cell_of_blk hro 0
  have r1 := cell_of_blk hro 1
  have r2 := cell_of_blk hro 2
  have r3 := cell_of_blk hro 3
  have r4 := cell_of_blk hro 4
  have r5 := cell_of_blk hro 5
  have r6 := cell_of_blk hro 6
  have r7 := cell_of_blk hro 7
  have r8 := cell_of_blk hro 8
  have rz := unfrozen_of_blk hro
  simp only [List.getElem?_toArray, List.getElem?_cons_zero, List.getElem?_cons_succ] at r0 r1 r2 r3 r4 r5 r6 r7 r8
  have HX := Lib.hid (And.intro hgw (And.intro hR9 (And.intro hO9 hr9)))
  clear hg9 hgw hR9 hO9 hr9 hro
  go_wp2_with fail
  obtain ⟨hg1, hR1, hO1, hr1⟩ := HX.out
  refine bodyPost_ret (v := tmV x tp tc rp rc p c) ?_ rfl ?_
  · rw [results_cell1 rfl]
    go_simp
    all_goals (repeat' apply And.intro) <;> rfl
  · exact form_out HU.out hg1 ⟨ty, l2, HT2.out, hR1⟩ hO1 hr1
end Go.Proofs.YtjobmgbchpoheaaGreatDoor
namespace Go.Proofs.YtjobmgbchpoheaaGreatDoor
open Go Go.RowKit

theorem under_mono {R FB : Nat} {E : Nat → Nat} {D D' : Nat} (h : Rdr.Under R FB E D) (hD : D ≤ D') : Rdr.Under R FB E D' := ⟨by have := h.1; omega, by have := h.2.1; omega, fun i hi => by have := h.2.2 i hi; omega⟩
set_option maxRecDepth 100000 in
set_option maxHeartbeats 4000000 in
theorem rec_any {F : RdF} (hF : Bd F) {R FB : Nat} {E : Nat → Nat} {k0 : Nat} (hOk : TermOk F R FB E k0) (l : List UInt8) (k : Nat) (w : World) (hk0 : k0 ≤ k) (hP : Pot k 998) (hl : Small l) (hr : Rdr R FB E l k w) :
    Calls Tryz.prog 55 #[.pointer (some ⟨R, 0, none⟩)] w (FormRet (rdRec F) R FB E w.heap.size l k w) := by
  obtain ⟨w0, hw0, hs0, hb0, r0, r1⟩ := box_new2 w #[.int .i64 0, .string ⟨#[]⟩, .string ⟨#[]⟩, .int .i64 0, .int .i64 0, .slice none 0 0, .int .i64 0, .slice none 0 0, .slice none 0 0] #[.int .i64 9, .string ⟨#[]⟩, .string ⟨#[]⟩, .int .i64 0, .int .i64 0, .slice none 0 0, .int .i64 0, .slice none 0 0, .slice none 0 0] 29 29
  have HW0 := Lib.hid hw0
  have hr0 := hr.below hb0
  have HU := Lib.hid hr.under
  have hub := under_mono hr.under (show w.heap.size ≤ w.heap.size + 1 by omega)
  have HUB := Lib.hid hub
  have HB0 := Lib.hid hb0
  have R0 := Lib.hid r0
  have R1 := Lib.hid r1
  have HS0 := Lib.hid hs0
  have HN := Lib.hid (name_any [32] hl hr0)
  have hl1 : Small (cut [32] (wrest l)) := small_cut (small_wrest hl)
  have hl2 : Small (cut [58] (wrest (cut [32] (wrest l)))) := small_cut (small_wrest hl1)
  have HN2 := Lib.hid (fun (W : World) (h : Rdr R FB E (cut [32] (wrest l)) k W) => name_any [58] hl1 h)
  have HT1 := Lib.hid (fun (W : World) (h : Rdr R FB E (cut [58] (wrest (cut [32] (wrest l)))) k W) => type_any [62] hl2 h)
  have HT2 := Lib.hid (fun (l3 : List UInt8) (h3 : Small l3) (W : World) (h : Rdr R FB E l3 k W) => type_any [46] h3 h)
  have HA := Lib.hid (fun (ty res : Ty) (tp : Option Addr) (tc : Nat) (rp : Option Addr) (rc : Nat) (l4 : List UInt8) (b b2 : Nat) (W : World) (h : Rdr R FB E l4 k W) (hl4 : Small l4) (hn : nodesS ty.args ≤ 512) (hn2 : nodesS res.args ≤ 512) (hb : w.heap.size + 1 ≤ b) (hbb : b ≤ b2) (hbW : b2 ≤ W.heap.size) (ho : OS W ty.args (.slice tp ty.args.length tc) (fun z => b ≤ z ∧ z < b2)) (ho2 : OS W res.args (.slice rp res.args.length rc) (fun z => b2 ≤ z ∧ z < W.heap.size)) =>
    args_any hF hOk 9 (bx (wd l)) (bx (wd (cut [32] (wrest l)))) 0 ty res tp tc rp rc (w.heap.size + 1) (fun z => b ≤ z ∧ z < b2) (fun z => b2 ≤ z ∧ z < W.heap.size) l4 k W hk0 hP hl4 h HUB.out (by omega) (by decide) (small_wd hl) (small_wd hl1) (by omega) (by omega) ho ho2 (fun z hz => ⟨by omega, by omega, by omega⟩) (fun z hz => ⟨by omega, hz.2⟩))
  clear hr hr0 hub hb0 r0 r1 hs0 hw0
  go_enter Tryz.func55, Tryz.ntmps55
  go_wp2_with fail
  rw [HW0.out]
  refine HN.out.mono ?_
  rintro e w1 ⟨rfl, hr1, hg1⟩
  have HC1 := Lib.hid (HN2.out w1 hr1)
  have HG1 := Lib.hid hg1
  clear hr1 hg1
  go_wp2_with fail
  refine HC1.out.mono ?_
  rintro e w2 ⟨rfl, hr2, hg2⟩
  have hgg := grownBy_trans HG1.out hg2
  have hne : ∀ z, z ≠ R → (some z : Option Nat) ≠ some R := fun z hz e => hz (Option.some.inj e)
  have hRw := HU.out.1
  have hs0' := HS0.out
  have hB2 := (hgg.block (w.heap.size + 1) (by omega) (hne _ (by omega))).trans R1.out
  have hO2 := (hgg.block w.heap.size (by omega) (hne _ (by omega))).trans R0.out
  have yz := unfrozen_of_blk hB2
  have y1 : w2.cell? ⟨w.heap.size + 1, 1, none⟩ = some (.string E0) := cell_of_blk hB2 1
  have y2 : w2.cell? ⟨w.heap.size + 1, 2, none⟩ = some (.string E0) := cell_of_blk hB2 2
  have HGG := Lib.hid hgg
  have HR2 := Lib.hid hr2
  have BB2 := Lib.hid hB2
  have BO2 := Lib.hid hO2
  clear hr2 hg2 hgg hB2 hO2 hRw hs0'
  go_wp2_with fail
  obtain ⟨w3, hw3⟩ : ∃ w3, (w2.setCell ⟨w.heap.size + 1, 1, none⟩ (.string (bx (wd l)))).setCell ⟨w.heap.size + 1, 2, none⟩ (.string (bx (wd (cut [32] (wrest l))))) = w3 := ⟨_, rfl⟩
  have hb3 : Below (w.heap.size + 1) w2 w3 := by
    rw [← hw3]
    exact ((Below.refl _ w2).setCell (p := ⟨w.heap.size + 1, 1, none⟩) (Nat.le_refl _) _).setCell (p := ⟨w.heap.size + 1, 2, none⟩) (Nat.le_refl _) _
  have hB3 : w3.heap[w.heap.size + 1]? = some (.cells (eC 9 (bx (wd l)) (bx (wd (cut [32] (wrest l)))) 0 Z0 Z0 none 0 none 0 none 0 0) 29 (0, 0)) := by
    rw [← hw3]
    exact heap_setCell_same _ _ 2 _ _ (.string (bx (wd (cut [32] (wrest l))))) (heap_setCell_same w2 _ 1 _ _ (.string (bx (wd l))) BB2.out)
  have hz3 : w3.heap.size = w2.heap.size := by rw [← hw3]; simp [World.setCell]
  rw [hw3]
  have hr3 := HR2.out.belowAt HUB.out hb3
  have hO3 := (hb3.block w.heap.size (by omega)).trans BO2.out
  have HC3 := Lib.hid (HT1.out w3 hr3)
  have HB3 := Lib.hid hb3
  have BB3 := Lib.hid hB3
  have BO3 := Lib.hid hO3
  have HZ3 := Lib.hid hz3
  clear hw3 hb3 hB3 hr3 hO3 hz3 y1 y2 yz
  refine HC3.out.mono ?_
  rintro e w4 ⟨ty, p4, c4, l4, rfl, ht4, ho4, hr4, hg4⟩
  obtain ⟨hn4, hle4⟩ := rdTy_bd ht4
  have hl4 : Small l4 := by unfold Small at *; omega
  have HC4 := Lib.hid (HT2.out l4 hl4 w4 hr4)
  have HG4 := Lib.hid hg4
  have HT4 := Lib.hid ht4
  have HO4 := Lib.hid ho4
  clear hr4 hg4 ht4 ho4
  go_wp2_with fail
  refine HC4.out.mono ?_
  rintro e w5 ⟨res, p5, c5, l5, rfl, ht5, ho5, hr5, hg5⟩
  obtain ⟨hn5, hle5⟩ := rdTy_bd ht5
  have hl5 : Small l5 := by unfold Small at *; omega
  have hg35 := grownBy_trans HG4.out hg5
  have hRw := HU.out.1
  have hs0' := HS0.out
  have hg12 := HGG.out.size
  have hz3 := HZ3.out
  have hz4 := HG4.out.size
  have hz5 := hg5.size
  have hB5 := (hg35.block (w.heap.size + 1) (by omega) (hne _ (by omega))).trans BB3.out
  have hO5 := (hg35.block w.heap.size (by omega) (hne _ (by omega))).trans BO3.out
  have yz := unfrozen_of_blk hB5
  have y4 : w5.cell? ⟨w.heap.size + 1, 4, none⟩ = some (.int .i64 0) := cell_of_blk hB5 4
  have y5 : w5.cell? ⟨w.heap.size + 1, 5, none⟩ = some (.slice none 0 0) := cell_of_blk hB5 5
  have y6 : w5.cell? ⟨w.heap.size + 1, 6, none⟩ = some (.int .i64 0) := cell_of_blk hB5 6
  have y7 : w5.cell? ⟨w.heap.size + 1, 7, none⟩ = some (.slice none 0 0) := cell_of_blk hB5 7
  obtain ⟨w6, hw6⟩ : ∃ w6, (((w5.setCell ⟨w.heap.size + 1, 4, none⟩ (.int .i64 ty.kind)).setCell ⟨w.heap.size + 1, 5, none⟩ (.slice p4 ty.args.length c4)).setCell ⟨w.heap.size + 1, 6, none⟩ (.int .i64 res.kind)).setCell ⟨w.heap.size + 1, 7, none⟩ (.slice p5 res.args.length c5) = w6 := ⟨_, rfl⟩
  have hb6 : Below (w.heap.size + 1) w5 w6 := by
    rw [← hw6]
    exact ((((Below.refl _ w5).setCell (p := ⟨w.heap.size + 1, 4, none⟩) (Nat.le_refl _) _).setCell (p := ⟨w.heap.size + 1, 5, none⟩) (Nat.le_refl _) _).setCell (p := ⟨w.heap.size + 1, 6, none⟩) (Nat.le_refl _) _).setCell (p := ⟨w.heap.size + 1, 7, none⟩) (Nat.le_refl _) _
  have hst6 : ∀ F0 : Nat → Prop, ¬ F0 (w.heap.size + 1) → Stays F0 w5 w6 := fun F0 h0 => by
    rw [← hw6]
    exact (((setCell_stays _ _ _ _ F0 h0).trans (setCell_stays _ _ _ _ F0 h0)).trans (setCell_stays _ _ _ _ F0 h0)).trans (setCell_stays _ _ _ _ F0 h0)
  have hB6 : w6.heap[w.heap.size + 1]? = some (.cells (eC 9 (bx (wd l)) (bx (wd (cut [32] (wrest l)))) 0 ty res p4 c4 p5 c5 none 0 0) 29 (0, 0)) := by
    rw [← hw6]
    exact heap_setCell_same _ _ 7 _ _ (.slice p5 res.args.length c5) (heap_setCell_same _ _ 6 _ _ (.int .i64 res.kind) (heap_setCell_same _ _ 5 _ _ (.slice p4 ty.args.length c4) (heap_setCell_same w5 _ 4 _ _ (.int .i64 ty.kind) hB5)))
  have hz6 : w6.heap.size = w5.heap.size := by rw [← hw6]; simp [World.setCell]
  have d0 : w6.cell? ⟨w.heap.size + 1, 0, none⟩ = some (.int .i64 9) := cell_of_blk hB6 0
  have d1 : w6.cell? ⟨w.heap.size + 1, 1, none⟩ = some (.string (bx (wd l))) := cell_of_blk hB6 1
  have d2 : w6.cell? ⟨w.heap.size + 1, 2, none⟩ = some (.string (bx (wd (cut [32] (wrest l))))) := cell_of_blk hB6 2
  have d3 : w6.cell? ⟨w.heap.size + 1, 3, none⟩ = some (.int .i64 0) := cell_of_blk hB6 3
  have d4 : w6.cell? ⟨w.heap.size + 1, 4, none⟩ = some (.int .i64 ty.kind) := cell_of_blk hB6 4
  have d5 : w6.cell? ⟨w.heap.size + 1, 5, none⟩ = some (.slice p4 ty.args.length c4) := cell_of_blk hB6 5
  have d6 : w6.cell? ⟨w.heap.size + 1, 6, none⟩ = some (.int .i64 res.kind) := cell_of_blk hB6 6
  have d7 : w6.cell? ⟨w.heap.size + 1, 7, none⟩ = some (.slice p5 res.args.length c5) := cell_of_blk hB6 7
  have d8 : w6.cell? ⟨w.heap.size + 1, 8, none⟩ = some (.slice none 0 0) := cell_of_blk hB6 8
  have hr6 := hr5.belowAt HUB.out hb6
  have hg06 := gb_more (D := w.heap.size + 1) (grownBy_trans (gb_more (D := w.heap.size + 1) (grownBy_trans (gb_below HB0.out (some R)) HGG.out) (by omega) HB3.out) hg35) (by omega) hb6
  have HG := Lib.hid hg06
  have RO := Lib.hid ((hb6.block w.heap.size (by omega)).trans hO5)
  have HC := Lib.hid (HA.out ty res p4 c4 p5 c5 l5 w3.heap.size w4.heap.size w6 hr6 hl5 hn4 hn5 (by omega) hz4 (by omega) ((HO4.out.stays (stays_grown hg5 (fun z hz => by omega))).stays (hst6 _ (by omega))) ((ho5.stays (hst6 _ (by omega))).mono (fun z hz => by omega)))
  have HT5 := Lib.hid ht5
  have HZ6 : Hid (w.heap.size < w6.heap.size) := Lib.hid (by omega)
  clear ht5 ho5 hr5 hg5 hg35 hB5 hO5 hb6 hst6 hB6 hz6 hr6 hg06 hle4 hle5 hRw hs0' hg12 hz3 hz4 hz5
  go_wp2_with fail
  refine HC.out.mono ?_
  rintro e w9 ⟨hg9, x, k9, l9, v9, rfl, hR9, ⟨tp, tc, rp, rc, p, c, rfl, hO9⟩, hr9⟩
  have hgw := grownBy_trans HG.out hg9
  have hro := (hg9.block w.heap.size (by exact HZ6.out) (fun e => by have := HU.out.1; have := Option.some.inj e; omega)).trans RO.out
  have r0 := cell_of_blk hro 0
  have r1 := cell_of_blk hro 1
  have r2 := cell_of_blk hro 2
  have r3 := cell_of_blk hro 3
  have r4 := cell_of_blk hro 4
  have r5 := cell_of_blk hro 5
  have r6 := cell_of_blk hro 6
  have r7 := cell_of_blk hro 7
  have r8 := cell_of_blk hro 8
  have rz := unfrozen_of_blk hro
  simp only [List.getElem?_toArray, List.getElem?_cons_zero, List.getElem?_cons_succ] at r0 r1 r2 r3 r4 r5 r6 r7 r8
  have HX := Lib.hid (And.intro hgw (And.intro hR9 (And.intro hO9 hr9)))
  clear hg9 hgw hR9 hO9 hr9 hro
  go_wp2_with fail
  obtain ⟨hg1, hR1, hO1, hr1⟩ := HX.out
  refine bodyPost_ret (v := tmV x tp tc rp rc p c) ?_ rfl ?_
  · rw [results_cell1 rfl]
    go_simp
    all_goals (repeat' apply And.intro) <;> rfl
  · exact form_out HU.out hg1 ⟨_, ty, l4, res, l5, rfl, HT4.out, HT5.out, hR1⟩ hO1 hr1
end Go.Proofs.YtjobmgbchpoheaaGreatDoor
