/-
  The walk of the law that EraseType answers as its model does, writes into no argument, and owns its answer.
-/
import Derived.Test.YtjobmgbchpoheaaOpenT
import Derived.Test.YtjobmgbchpoheaaTyMark
import Derived.Test.YtjobmgbchpoheaaTyEq
import Derived.Test.YtjobmgbchpoheaaSpecErase
import Derived.Test.YtjobmgbchpoheaaGrowE
namespace Go.Proofs.Ytjobmgbchpoheaa
open Go Go.RowKit

theorem eraseK_nodes (k : Int) (es : List Ty) : (eraseK k es).nodes ≤ 1 + nodesS es := by
  unfold eraseK
  split
  · next h =>
    obtain ⟨x, rfl⟩ := List.length_eq_one_iff.1 h.2
    simp [nodesS]
  · simp [Ty.nodes]
mutual
theorem erase_nodes : ∀ t : Ty, t.erase.nodes ≤ t.nodes
  | .mk k ts => by
    have h1 := eraseS_nodes ts
    have h2 := eraseK_nodes k (eraseS ts)
    simp only [Ty.erase, Ty.nodes]
    omega
theorem eraseS_nodes : ∀ ts : List Ty, nodesS (eraseS ts) ≤ nodesS ts
  | [] => Nat.le_refl _
  | t :: ts => by
    have h1 := erase_nodes t
    have h2 := eraseS_nodes ts
    simp only [eraseS, nodesS]
    omega
end
theorem erase_args_nodes (t : Ty) : nodesS t.erase.args ≤ nodesS t.args := by
  have h1 := erase_nodes t
  rw [t.nodes_eq, t.erase.nodes_eq] at h1
  omega

/-- A box that holds a type's two cells. -/
def Bx (w : World) (b : Nat) (k : Int) (s : Value) : Prop := w.cell? ⟨b, 0, none⟩ = some (.int .i64 k) ∧ w.cell? ⟨b, 1, none⟩ = some s
theorem Bx.lt {w : World} {b : Nat} {k : Int} {s : Value} (h : Bx w b k s) : b < w.heap.size := World.block_lt_of_cell? w _ h.1
theorem Bx.stays {w w' : World} {b : Nat} {k : Int} {s : Value} {C : Nat → Prop} (h : Bx w b k s) (hs : Stays C w w') (hc : C b) : Bx w' b k s :=
  ⟨(World.cell?_of_block (w := w) (a := ⟨b, 0, none⟩) (hs.2 b hc h.lt)).trans h.1, (World.cell?_of_block (w := w) (a := ⟨b, 1, none⟩) (hs.2 b hc h.lt)).trans h.2⟩
theorem Bx.keep {w w' : World} {b : Nat} {k : Int} {s : Value} (h : Bx w b k s) (hb : Below w.heap.size w w') : Bx w' b k s := h.stays (C := fun _ => True) (.of_below hb) trivial
theorem Bx.new (w : World) (k : Int) (s : Value) (t : TypeId) : Bx (w.alloc (.cells #[.int .i64 k, s] t)) w.heap.size k s :=
  ⟨cell_of_blk (blk_new w _) 0, cell_of_blk (blk_new w _) 1⟩
theorem TT.stays {w w' : World} {C : Nat → Prop} {t : Ty} {v : Value} (h : TT w C t v) (hs : Stays C w w') : TT w' C t v := by
  obtain ⟨s, hv, h⟩ := h
  exact ⟨s, hv, h.stays hs⟩
theorem OT.stays {w w' : World} {F : Nat → Prop} {t : Ty} {v : Value} (h : OT w t v F) (hs : Stays F w w') : OT w' t v F := by
  obtain ⟨s, hv, h⟩ := h
  exact ⟨s, hv, h.stays hs⟩
theorem alloc_below (w : World) (o : Obj) : Below w.heap.size w (w.alloc o) := (Below.refl _ w).alloc (Nat.le_refl _) o

/-- THE MODEL's EraseType, AT ANY TYPE. -/
theorem eraseSpT_any {C : Nat → Prop} {t : Ty} {v : Value} {w : World} (h : TT w C t v) (hn : nodesS t.args ≤ 1048576) : Calls Try.prog 19 #[v] w (NewR t.erase w) := by
  obtain ⟨s, rfl, h⟩ := h
  have := eraseSp_any h w t.kind (Stays.refl _ _) hn
  rwa [← Ty.eta t] at this

set_option maxRecDepth 100000 in
set_option maxHeartbeats 4000000 in
theorem lawEraseType {C : Nat → Prop} (t : Ty) (v : Value) (w : World) (h : TT w C t v) :
    Calls Try.prog 4 #[v] w fun e w' => e = .returned (.bool true) ∧ Below w.heap.size w w' := by
  have HT := Lib.hid (fun w' (hb : Below w.heap.size w w') => h.keep hb)
  obtain ⟨s, rfl, hS⟩ := h
  obtain ⟨p, c, rfl⟩ := hS.form
  clear hS
  have HB0 := Lib.hid (alloc_below w (Obj.cells #[.int .i64 t.kind, .slice p t.args.length c] 36))
  go_enter Try.func4, Try.ntmps4
  go_wp2_with fail
  refine (szT_any (HT.out _ HB0.out) 1048576 (by omega) (by omega)).mono ?_
  rintro e w1 ⟨r, hr, rfl, hb1⟩
  have HB1 := Lib.hid (HB0.out.trans (hb1.mono HB0.out.size))
  have HR := Lib.hid hr
  have hx := (Bx.new w t.kind (.slice p t.args.length c) 36).keep hb1
  have HX1 := Lib.hid hx
  obtain ⟨c0, c1⟩ := hx
  clear hr hb1
  by_cases h0 : r < 0
  · go_wp2_with fail
    go_ret
    exact ⟨rfl, HB1.out⟩
  have hn : nodesS t.args ≤ 1048576 := by have := HR.out; unfold SzEnds at this; omega
  have hne : nodesS t.erase.args ≤ 1048576 := Nat.le_trans (erase_args_nodes t) hn
  go_wp2_with fail
  refine (toT_any (HT.out _ HB1.out) hn).mono ?_
  rintro e w2 ⟨v1, rfl, ho1, hb2⟩
  have HO1 := Lib.hid ho1
  have HB2 := Lib.hid (HB1.out.trans (hb2.mono HB1.out.size))
  have HX2 := Lib.hid (HX1.out.keep hb2)
  clear ho1 hb2 c0 c1
  go_wp2_with fail
  refine (eraseSpT_any HO1.out.tt hn).mono ?_
  rintro e w3 ⟨v2, rfl, ⟨s2, rfl, hw⟩, hb3⟩
  obtain ⟨p2, c2, rfl⟩ := hw.form
  have HB3 := Lib.hid (HB2.out.trans (hb3.mono HB2.out.size))
  have HW := Lib.hid (hw.mono (C' := (· < w3.heap.size)) (fun b _ hl => hl))
  have hba := alloc_below w3 (.cells #[.int .i64 t.erase.kind, .slice p2 t.erase.args.length c2] 26)
  have HBA := Lib.hid hba
  have hx := ((HX2.out.keep hb3).keep hba)
  have HX3 := Lib.hid hx
  have HW4 := Lib.hid (Bx.new w3 t.erase.kind (.slice p2 t.erase.args.length c2) 26)
  obtain ⟨c0, c1⟩ := hx
  have HB3a := Lib.hid (HB3.out.trans (hba.mono HB3.out.size))
  clear hw hb3 hba
  go_wp2_with fail
  refine (toT_any (HT.out _ HB3a.out) hn).mono ?_
  rintro e w4 ⟨v3, rfl, ⟨s3, rfl, ho3⟩, hb4⟩
  obtain ⟨p3, c3, rfl⟩ := ho3.form
  have HO3 := Lib.hid ho3
  have HB4w := Lib.hid hb4
  have hba := alloc_below w4 (.cells #[.int .i64 t.kind, .slice p3 t.args.length c3] 26)
  have HBA4 := Lib.hid hba
  have hx := Bx.new w4 t.kind (.slice p3 t.args.length c3) 26
  have HX5 := Lib.hid hx
  have HTA := Lib.hid (⟨_, rfl, ho3.ts.keep hba⟩ : TT (w4.alloc (.cells #[.int .i64 t.kind, .slice p3 t.args.length c3] 26)) _ t (.agg #[.int .i64 t.kind, .slice p3 t.args.length c3]))
  have HB4 := Lib.hid (HB3a.out.trans (hb4.mono HB3a.out.size))
  have HB4a := Lib.hid (HB4.out.trans (hba.mono HB4.out.size))
  clear c0 c1 ho3 hb4 hba
  obtain ⟨c0, c1⟩ := hx
  go_wp2_with fail
  refine (eraseI_any HTA.out hn).mono ?_
  rintro e w5 ⟨v4, rfl, ⟨s4, rfl, ho4⟩, hb5⟩
  obtain ⟨p4, c4, rfl⟩ := ho4.form
  have hba := alloc_below w5 (.cells #[.int .i64 t.erase.kind, .slice p4 t.erase.args.length c4] 26)
  obtain ⟨w5b, hw5⟩ : ∃ w5b, w5.alloc (.cells #[.int .i64 t.erase.kind, .slice p4 t.erase.args.length c4] 26) = w5b := ⟨_, rfl⟩
  have hs3 : (w3.alloc (.cells #[.int .i64 t.erase.kind, .slice p2 t.erase.args.length c2] 26)).heap.size = w3.heap.size + 1 := by simp
  have hs4 : (w4.alloc (.cells #[.int .i64 t.kind, .slice p3 t.args.length c3] 26)).heap.size = w4.heap.size + 1 := by simp
  have hs5 : w5b.heap.size = w5.heap.size + 1 := by rw [← hw5]; simp
  have l34 := HB4w.out.size
  have l45 := hb5.size
  have lw3 := HB3.out.size
  rw [hs3] at l34
  rw [hs4] at l45
  have XX6 : Bx w5b w5.heap.size t.erase.kind (.slice p4 t.erase.args.length c4) := hw5 ▸ Bx.new w5 t.erase.kind (.slice p4 t.erase.args.length c4) 26
  rw [hw5] at hba
  have hb5b := (hb5.trans (hba.mono hb5.size))
  have XX5 := (HX5.out.keep hb5b)
  have hb3b := (HB4w.out.trans ((HBA4.out.trans (hb5b.mono HBA4.out.size)).mono HB4w.out.size))
  have XX4 := HW4.out.keep hb3b
  have XX1 := HX3.out.keep hb3b
  have WW : TT w5b (· < w3.heap.size) t.erase (.agg #[.int .i64 t.erase.kind, .slice p2 t.erase.args.length c2]) := ⟨_, rfl, (HW.out.keep HBA.out).keep hb3b⟩
  have AA : OT w5b t (.agg #[.int .i64 t.kind, .slice p3 t.args.length c3]) (fun z => w3.heap.size + 1 ≤ z ∧ z < w4.heap.size) := ⟨_, rfl, ((HO3.out.keep HBA4.out).keep hb5b).mono (fun z hz => by rw [hs3] at hz; exact hz)⟩
  have GG : OT w5b t.erase (.agg #[.int .i64 t.erase.kind, .slice p4 t.erase.args.length c4]) (fun z => w4.heap.size + 1 ≤ z ∧ z < w5.heap.size) := ⟨_, rfl, (ho4.keep hba).mono (fun z hz => by rw [hs4] at hz; exact hz)⟩
  have BB : Below w.heap.size w w5b := HB4a.out.trans (hb5b.mono HB4a.out.size)
  have H1 := Lib.hid XX1
  have H4 := Lib.hid XX4
  have H5 := Lib.hid XX5
  have H6 := Lib.hid XX6
  have HWW := Lib.hid WW
  have HAA := Lib.hid AA
  have HGG := Lib.hid GG
  have HBB := Lib.hid BB
  have HL := Lib.hid (And.intro l34 (And.intro l45 (And.intro lw3 hs5)))
  have HW5 := Lib.hid hw5
  have f40 := XX4.1
  have f41 := XX4.2
  have f60 := XX6.1
  have f61 := XX6.2
  rw [← hw5] at f40 f41 f60 f61
  have HEQ := Lib.hid (eqT_any GG.tt WW)
  rw [← hw5] at HEQ
  clear c0 c1 ho4 hb5 hba hw5 hs3 hs4 hs5 l34 l45 lw3 XX1 XX4 XX5 XX6 WW AA GG BB hb5b hb3b
  go_wp2_with fail
  refine HEQ.out.mono ?_
  rintro e w6 ⟨b6, he6, rfl, hb6⟩
  rw [HW5.out] at hb6
  obtain rfl : b6 = true := by simpa using he6
  have HS6 := Lib.hid hb6
  have HB6 := Lib.hid (HBB.out.trans (hb6.mono HBB.out.size))
  have g1 := H1.out.keep hb6
  have g5 := H5.out.keep hb6
  obtain ⟨c0, c1⟩ := g1
  obtain ⟨x0, x1⟩ := g5
  have HAX := Lib.hid (fun (W : World) (hW : Below w6.heap.size w6 W) => HAA.out.tt.keep (HS6.out.trans (hW.mono HS6.out.size)))
  clear f40 f41 f60 f61 he6 hb6 HEQ
  go_wp2_with fail
  go_region_held3 (fun w' => w'.cell? ⟨w.heap.size, 0, none⟩ = some (.int .i64 t.kind) ∧ w'.cell? ⟨w.heap.size, 1, none⟩ = some (.slice p t.args.length c) ∧ w'.cell? ⟨w4.heap.size, 0, none⟩ = some (.int .i64 t.kind) ∧ w'.cell? ⟨w4.heap.size, 1, none⟩ = some (.slice p3 t.args.length c3) ∧ Below w6.heap.size w6 w')
    (first
      | (go_keep; done)
      | exact ⟨by simp [*], by simp [*], by simp [*], by simp [*], (Below.refl _ _).drew⟩
      | exact keep4 hb8 (by assumption)
      | exact keep4 hb7 (by assumption))
    (first
      | (go_at_call 21; refine (toT_any (HT.out _ (HB6.out.trans (((Below.refl _ _).drew).mono HB6.out.size))) hn).mono ?_; rintro e w7 ⟨v7, rfl, ho7, hb7⟩)
      | (go_at_call 22; refine (eqT_any (HAX.out _ (((Below.refl _ _).drew.trans hb7))) ho7.tt).mono ?_; rintro e w8 ⟨b8, he8, rfl, hb8⟩))
  rename_i hH
  have hbl := hH.2.2.2.2
  obtain rfl : b8 = true := by simpa using he8
  have S8 := HS6.out.trans (hbl.mono HS6.out.size)
  have HS8 := Lib.hid S8
  have HB8 := Lib.hid (HBB.out.trans (S8.mono HBB.out.size))
  obtain ⟨x50, x51⟩ := H5.out.keep S8
  obtain ⟨m, hm⟩ : ∃ m : Nat, 1 + nodesS t.args = m := ⟨_, rfl⟩
  have hM := markT_any (HAA.out.keep S8) 1 (by omega)
  rw [hm] at hM
  have HM := Lib.hid (show Calls Try.prog 23 #[.agg #[.int .i64 t.kind, .slice p3 t.args.length c3], .int .i64 1] w8 _ from hM)
  have hmm : ¬ ((m : Int) < 0) := by omega
  clear hH hbl he8 hb8 hb7 ho7 c0 c1 x0 x1 S8 hM hm
  go_wp2_with fail
  refine HM.out.mono ?_
  rintro e w9 ⟨rfl, _, w8b, hb9, hbt9⟩
  obtain ⟨l34, l45, lw3, hs5⟩ := HL.out
  have S9 : Stays (fun z => z < w3.heap.size + 1 ∨ (w4.heap.size ≤ z ∧ z < w5.heap.size + 1)) w5b w9 := ((Stays.of_below HS8.out).trans (.of_below hb9)).trans (hbt9.stays (fun z h1 h2 => by omega))
  have B9 : Below w.heap.size w w9 := (HB8.out.trans (hb9.mono HB8.out.size)).trans (hbt9.below _ (Nat.le_trans HB8.out.size hb9.size) (fun z hz => by omega))
  have HS9 := Lib.hid S9
  have HB9 := Lib.hid B9
  obtain ⟨f40, f41⟩ := H4.out.stays S9 (by show w3.heap.size < _ ∨ _; omega)
  obtain ⟨f60, f61⟩ := H6.out.stays S9 (by show _ ∨ (_ ∧ w5.heap.size < _); omega)
  have HEQ := Lib.hid (eqT_any (HGG.out.stays (S9.mono (fun z hz => by omega))).tt (HWW.out.stays (S9.mono (fun z hz => by omega))))
  clear x50 x51 hb9 hbt9 S9 B9 l34 l45 lw3 hs5
  go_wp2_with fail
  refine HEQ.out.mono ?_
  rintro e w10 ⟨b10, he10, rfl, hb10⟩
  obtain rfl : b10 = true := by simpa using he10
  obtain ⟨l34, l45, lw3, hs5⟩ := HL.out
  have S10 := HS9.out.trans (.of_below hb10)
  have HS10 := Lib.hid S10
  have HB10 := Lib.hid (HB9.out.trans (hb10.mono HB9.out.size))
  obtain ⟨f60, f61⟩ := H6.out.stays S10 (by show _ ∨ (_ ∧ w5.heap.size < _); omega)
  obtain ⟨n, hn2⟩ : ∃ n : Nat, 1 + nodesS t.erase.args = n := ⟨_, rfl⟩
  have HN := Lib.hid hn2
  have hM := markT_any (HGG.out.stays (S10.mono (fun z hz => by omega))) 1 (by omega)
  rw [hn2] at hM
  have HM2 := Lib.hid (show Calls Try.prog 23 #[.agg #[.int .i64 t.erase.kind, .slice p4 t.erase.args.length c4], .int .i64 1] w10 _ from hM)
  have hnn : ¬ ((n : Int) < 0) := by omega
  clear f40 f41 he10 hb10 S10 hM hn2 l34 l45 lw3 hs5 HEQ
  go_wp2_with fail
  refine HM2.out.mono ?_
  rintro e w11 ⟨rfl, hO, w10b, hb11, hbt11⟩
  obtain ⟨l34, l45, lw3, hs5⟩ := HL.out
  have S11 : Stays (fun z => z < w3.heap.size + 1 ∨ z = w5.heap.size) w5b w11 := (((HS10.out.mono (fun z hz => by omega))).trans (.of_below hb11)).trans (hbt11.stays (fun z h1 h2 => by omega))
  have B11 : Below w.heap.size w w11 := (HB10.out.trans (hb11.mono HB10.out.size)).trans (hbt11.below _ (Nat.le_trans HB10.out.size hb11.size) (fun z hz => by omega))
  have HS11 := Lib.hid S11
  have HB11 := Lib.hid B11
  have HO11 := Lib.hid hO
  obtain ⟨y60, y61⟩ := H6.out.stays S11 (Or.inr rfl)
  have hH1 := heldT_any (k := 1) (ts := t.erase.args) hO.tt rfl (by omega)
  rw [HN.out] at hH1
  have HH1 := Lib.hid (show Calls Try.prog 24 #[.agg #[.int .i64 t.erase.kind, .slice p4 t.erase.args.length c4], .int .i64 1] w11 _ from hH1)
  clear f60 f61 hb11 hbt11 S11 B11 hO hH1 l34 l45 lw3 hs5
  go_wp2_with fail
  refine HH1.out.mono ?_
  rintro e w12 ⟨r12, rfl, rfl, hb12⟩
  have HB12w := Lib.hid hb12
  have HB12 := Lib.hid (HB11.out.trans (hb12.mono HB11.out.size))
  have S12 := HS11.out.trans (.of_below hb12)
  obtain ⟨l34, l45, lw3, hs5⟩ := HL.out
  obtain ⟨c0, c1⟩ := H1.out.stays S12 (Or.inl (by have := HBB.out.size; omega))
  clear y60 y61 hb12 S12 l34 l45 lw3 hs5
  go_wp2_with fail
  refine (toT_any (HT.out _ HB12.out) hn).mono ?_
  rintro e w13 ⟨v13, rfl, ho13, hb13⟩
  have HO13 := Lib.hid ho13
  have HB13 := Lib.hid (hb13)
  clear ho13 hb13 c0 c1
  go_wp2_with fail
  refine (eraseI_any HO13.out.tt hn).mono ?_
  rintro e w14 ⟨v14, rfl, ⟨s14, rfl, ho14⟩, hb14⟩
  obtain ⟨p14, c14, rfl⟩ := ho14.form
  have hba := alloc_below w14 (.cells #[.int .i64 t.erase.kind, .slice p14 t.erase.args.length c14] 26)
  have hb12b := HB13.out.trans ((hb14.trans (hba.mono hb14.size)).mono HB13.out.size)
  have HB12b := Lib.hid hb12b
  have S14 := (HS11.out.trans (.of_below HB12w.out)).trans (.of_below hb12b)
  obtain ⟨l34, l45, lw3, hs5⟩ := HL.out
  have HEQ := Lib.hid (eqT_any (⟨_, rfl, ho14.ts.keep hba⟩ : TT (w14.alloc (.cells #[.int .i64 t.erase.kind, .slice p14 t.erase.args.length c14] 26)) _ t.erase (.agg #[.int .i64 t.erase.kind, .slice p14 t.erase.args.length c14])) (HWW.out.stays (S14.mono (fun z hz => by omega))))
  obtain ⟨f40, f41⟩ := H4.out.stays S14 (Or.inl (by omega))
  obtain ⟨x0, x1⟩ := Bx.new w14 t.erase.kind (.slice p14 t.erase.args.length c14) 26
  have HS14 := Lib.hid S14
  clear ho14 hb14 hba hb12b S14 l34 l45 lw3 hs5
  go_wp2_with fail
  refine HEQ.out.mono ?_
  rintro e w15 ⟨b15, he15, rfl, hb15⟩
  obtain rfl : b15 = true := by simpa using he15
  have S15 := HS14.out.trans (.of_below hb15)
  have b11 := HB12w.out.trans (((HB12b.out.trans (hb15.mono HB12b.out.size))).mono HB12w.out.size)
  have HB15 := Lib.hid (HB11.out.trans (b11.mono HB11.out.size))
  obtain ⟨y60, y61⟩ := H6.out.stays S15 (Or.inr rfl)
  have hH1 := heldT_any (k := 1) (ts := t.erase.args) (HO11.out.tt.keep b11) rfl (by omega)
  rw [HN.out] at hH1
  have HH2 := Lib.hid (show Calls Try.prog 24 #[.agg #[.int .i64 t.erase.kind, .slice p4 t.erase.args.length c4], .int .i64 1] w15 _ from hH1)
  clear f40 f41 x0 x1 he15 hb15 S15 b11 hH1 HEQ
  go_wp2_with fail
  refine HH2.out.mono ?_
  rintro e w16 ⟨r16, rfl, rfl, hb16⟩
  have HB16 := Lib.hid (HB15.out.trans (hb16.mono HB15.out.size))
  clear y60 y61 hb16
  go_wp2_with fail
  go_ret
  exact ⟨rfl, HB16.out⟩
#print axioms lawEraseType
end Go.Proofs.Ytjobmgbchpoheaa

