/-
  Several texts of the proof in one (each says below what it holds): RdI3 TextI Strs JoinSpec Copy AppS.
-/
import Derived.Test.YtjobmgbchpoheaaGreatDoorPB16
import Derived.Test.YtjobmgbchpoheaaGreatDoorPB20
import Derived.Test.YtjobmgbchpoheaaGreatDoorPB2
import Derived.Test.YtjobmgbchpoheaaGreatDoorPB1
import Derived.OwnWalk
import Derived.Below
import Derived.Test.YtjobmgbchpoheaaGreatDoorProg
import Derived.WalkSmall
import Derived.Lib.AppendStr
import Derived.Lib.Join
import Derived.Lib.Strings
import Derived.Lib.BufferRead
import Derived.Laws.OwnMore
import Derived.Laws.AppendOwn
namespace Go.Proofs.YtjobmgbchpoheaaGreatDoor
open Go Go.RowKit

set_option maxRecDepth 100000 in
set_option maxHeartbeats 2000000 in
theorem type_any {R FB : Nat} {E : Nat → Nat} {l : List UInt8} {k : Nat} {W : World} (q : List UInt8) (hl : Small l) (hr : Rdr R FB E l k W) :
    Calls Tryz.prog 97 #[.pointer (some ⟨R, 0, none⟩), .string (bx q)] W fun e w' => ∃ (ty : Ty) (p : Option Addr) (c : Nat) (l' : List UInt8), e = .returned (.agg #[.int .i64 ty.kind, .slice p ty.args.length c]) ∧ rdTy q l ty l' ∧
      OS w' ty.args (.slice p ty.args.length c) (fun z => W.heap.size ≤ z ∧ z < w'.heap.size) ∧ Rdr R FB E l' k w' ∧ W.grownBy w' (some R) := by
  obtain ⟨w0, hw0, hs0, hb0, r0⟩ := box_new W #[.int .i64 0, .slice none 0 0] 26
  have HR := Lib.hid hr
  have hr0 := hr.below hb0
  have HR0 := Lib.hid hr0
  obtain ⟨c0, c1, c2, cz⟩ := hr0.cells
  have HC := Lib.hid (lead_any (bx l) (by rw [bsz]; omega) w0)
  have R0 := Lib.hid r0
  have HB0 := Lib.hid hb0
  have HS0 := Lib.hid hs0
  have HSK := Lib.hid (fun (W' : World) (n : Nat) (h : Rdr R FB E (l.drop n) k W') => skip_any q h)
  clear hr hr0 r0 hb0 hs0
  go_enter Tryz.func97, Tryz.ntmps97
  go_wp2_with fail
  refine HC.out.mono ?_
  rintro e w1 ⟨hb1, t, p, c, n, ho⟩
  have hcase : n ≤ l.length ∧ OS w1 t.args (.slice p t.args.length c) (fun z => w0.heap.size ≤ z ∧ z < w1.heap.size) ∧ (∀ q, rdTy q l t (cut q (l.drop n))) ∧ ∃ b, e = .returned (.tuple #[.agg #[.int .i64 t.kind, .slice p t.args.length c], .int .i64 n, .bool b]) := by
    rcases ho with ⟨h1, rfl, h3⟩ | ⟨h1, rfl, ⟨h3, rfl, rfl⟩, h4⟩
    · have hg := (pty_good _ _ _ _ _ h1).le
      exact ⟨hg, h3, fun q => Or.inl ⟨n, h1, rfl⟩, _, rfl⟩
    · refine ⟨by rw [bsz] at h4; exact h4, by rw [h3]; exact .none _, fun q => Or.inr ⟨h1, h3, n, rfl⟩, _, rfl⟩
  obtain ⟨hn, hos, hrd, b, rfl⟩ := hcase
  have hx : (bx l).extract n l.length = bx (l.drop n) := bx_drop l n
  have hbt := al_below w1 (.cells #[.int .i64 t.kind, .slice p t.args.length c] 26)
  have hr2 := (HR0.out.below hb1).below hbt
  obtain ⟨c0, c1, c2, cz⟩ := hr2.cells
  have HR2 := Lib.hid hr2
  have HOS := Lib.hid (hos.keep hbt)
  have HRD := Lib.hid hrd
  have HB2 := Lib.hid (hb1.trans (hbt.mono hb1.size))
  have HT := Lib.hid (blk_new w1 (.cells #[.int .i64 t.kind, .slice p t.args.length c] 26))
  have hsz1 := hb1.size
  have i0 : (0 : Int) ≤ (n : Int) := Int.natCast_nonneg _
  have i1 : (n : Int) ≤ (l.length : Int) := by omega
  clear hos hrd hb1 hbt hr2 ho
  go_wp2_with fail
  obtain ⟨hp1, hp2⟩ := HR2.out.put (l.drop n)
  refine (HSK.out _ n hp1).mono ?_
  rintro e w3 ⟨rfl, hr3, hg3⟩
  have hR2 := HR2.out.lt
  have hRw := HR.out.lt
  have hs2 := HB2.out.size
  have hs0' := HS0.out
  have hgg := grownBy_trans hp2 hg3
  have hz3 := hgg.size
  have hnR : R ≠ w1.heap.size := by omega
  have hnW : R ≠ W.heap.size := by omega
  have e1 : (w1.alloc (.cells #[.int .i64 t.kind, .slice p t.args.length c] 26)).heap.size = w1.heap.size + 1 := by simp
  have hT3 := (hgg.block w1.heap.size (by omega) (fun e => hnR (Option.some.inj e).symm)).trans HT.out
  have hO3 := (hgg.block W.heap.size (by omega) (fun e => hnW (Option.some.inj e).symm)).trans ((HB2.out.block W.heap.size (by omega)).trans R0.out)
  have f0 : w3.cell? ⟨w1.heap.size, 0, none⟩ = some (.int .i64 t.kind) := cell_of_blk hT3 0
  have f1 : w3.cell? ⟨w1.heap.size, 1, none⟩ = some (.slice p t.args.length c) := cell_of_blk hT3 1
  have y0 : w3.cell? ⟨W.heap.size, 0, none⟩ = some (.int .i64 0) := cell_of_blk hO3 0
  have y1 : w3.cell? ⟨W.heap.size, 1, none⟩ = some (.slice none 0 0) := cell_of_blk hO3 1
  have yz := unfrozen_of_blk hO3
  have HOS3 := Lib.hid (HOS.out.stays (stays_grown hgg (fun z hz => by omega)))
  have HR3 := Lib.hid hr3
  have HG3 := Lib.hid hgg
  have HZ3 := Lib.hid hz3
  clear hp1 hp2 hr3 hg3 hgg hT3 hO3 c0 c1 c2 cz hR2 hRw hs2 hs0' hz3
  go_wp2_with fail
  refine bodyPost_ret (v := .agg #[.int .i64 t.kind, .slice p t.args.length c]) ?_ rfl ?_
  · rw [results_cell1 rfl]
    go_simp
  have hst : ∀ F : Nat → Prop, ¬ F W.heap.size → Stays F w3 ((w3.setCell ⟨W.heap.size, 0, none⟩ (.int .i64 t.kind)).setCell ⟨W.heap.size, 1, none⟩ (.slice p t.args.length c)) := fun F hF => (setCell_stays _ _ _ _ F hF).trans (setCell_stays _ _ _ _ F hF)
  have hbl : Below W.heap.size w3 ((w3.setCell ⟨W.heap.size, 0, none⟩ (.int .i64 t.kind)).setCell ⟨W.heap.size, 1, none⟩ (.slice p t.args.length c)) := ((Below.refl _ w3).setCell (p := ⟨W.heap.size, 0, none⟩) (Nat.le_refl _) _).setCell (p := ⟨W.heap.size, 1, none⟩) (Nat.le_refl _) _
  have hsz : ((w3.setCell ⟨W.heap.size, 0, none⟩ (.int .i64 t.kind)).setCell ⟨W.heap.size, 1, none⟩ (.slice p t.args.length c)).heap.size = w3.heap.size := by simp [World.setCell]
  have hs0' := HS0.out
  have hs3 := HZ3.out
  have hu := HR.out.under
  have hgW : W.grownBy w3 (some R) := grownBy_trans (gb_below (HB0.out.trans (HB2.out.mono (by omega))) (some R)) HG3.out
  exact ⟨t, p, c, _, rfl, HRD.out q, (HOS3.out.stays (hst _ (by omega))).mono (fun z hz => by rw [hsz]; omega), HR3.out.belowAt hu hbl, gb_more hgW (Nat.le_refl _) hbl⟩
end Go.Proofs.YtjobmgbchpoheaaGreatDoor
namespace Go.Proofs.YtjobmgbchpoheaaGreatDoor
open Go Go.RowKit

set_option maxRecDepth 100000 in
set_option maxHeartbeats 1000000 in
theorem imText_any {w0 : World} {C : Nat → Prop} {ts : List Ty} {v : Value} (h : TS w0 C ts v) : ∀ (w : World) (q : Int), Stays C w0 w → nodesS ts ≤ 2097152 → (Ty.mk q ts).form = true →
    Calls Tryz.prog 113 #[.agg #[.int .i64 q, v]] w (StrRet (Ty.mk q ts).text w) := by
  refine TS.ind (motive := fun ts v => ∀ (w : World) (q : Int), Stays C w0 w → nodesS ts ≤ 2097152 → (Ty.mk q ts).form = true → Calls Tryz.prog 113 #[.agg #[.int .i64 q, v]] w (StrRet (Ty.mk q ts).text w)) ?_ h
  intro ts p c hl H w q hst hn hf
  have HH := Lib.hid H
  have HST := Lib.hid hst
  clear H hst
  have HB0 := Lib.hid ((alloc_below w (.cells #[.int .i64 q, .slice p ts.length c] 26)).drew)
  have HBA := Lib.hid (alloc_below w (.cells #[.int .i64 q, .slice p ts.length c] 26))
  rcases form_cases hf with hc | hc | ⟨a, b, hc, ha, hb⟩ | ⟨a, hc, ha⟩
  · cases hc
    rw [text_int]
    go_enter Tryz.func113, Tryz.ntmps113
    go_wp2_with fail
    go_ret
    exact ⟨rfl, HBA.out⟩
  · cases hc
    rw [text_bool]
    go_enter Tryz.func113, Tryz.ntmps113
    go_wp2_with fail
    go_ret
    exact ⟨rfl, HBA.out⟩
  · cases hc
    rw [text_fun]
    clear hf
    obtain ⟨b0, o, p1, c1, rfl, hcs1, hT1, hI1⟩ := HH.out 0 a rfl
    obtain ⟨b1, o1, p2, c2, hp2, hcs2, hT2, hI2⟩ := HH.out 1 b rfl
    simp only [Option.some.injEq, Addr.mk.injEq, and_true] at hp2
    obtain ⟨rfl, rfl⟩ := hp2
    have na : a.nodes ≤ 2097152 := by simp only [nodesS] at hn; omega
    have nb : b.nodes ≤ 2097152 := by simp only [nodesS] at hn; omega
    have la := text_le _ a (Nat.le_refl _) ha
    have lb := text_le _ b (Nat.le_refl _) hb
    have nA : nodesS a.args ≤ 2097152 := by rw [a.nodes_eq] at na; omega
    have nB : nodesS b.args ≤ 2097152 := by rw [b.nodes_eq] at nb; omega
    have HA := Lib.hid (fun (W : World) (hW : Below w.heap.size w W) => (hI1 W a.kind (HST.out.trans (.of_below hW)) nA (by rw [← a.eta]; exact ha)).mono (R' := fun e w' => e = .returned (.string ⟨a.text.toArray⟩) ∧ Below w.heap.size w w' ∧ Below W.heap.size W w')
      (by rintro e w' ⟨rfl, hb⟩; exact ⟨by rw [← a.eta], hW.trans (hb.mono hW.size), hb⟩))
    have HB := Lib.hid (fun (W : World) (hW : Below w.heap.size w W) => (hI2 W b.kind (HST.out.trans (.of_below hW)) nB (by rw [← b.eta]; exact hb)).mono (R' := fun e w' => e = .returned (.string ⟨b.text.toArray⟩) ∧ Below w.heap.size w w' ∧ Below W.heap.size W w')
      (by rintro e w' ⟨rfl, hb⟩; exact ⟨by rw [← b.eta], hW.trans (hb.mono hW.size), hb⟩))
    have g1 := hcs1 _ (HST.out.trans (.of_below HB0.out))
    have g2 := hcs2 _ (HST.out.trans (.of_below HB0.out))
    simp only [Nat.zero_mul, Nat.one_mul, Nat.add_zero, List.length_cons, List.length_nil, Nat.zero_add, Nat.reduceAdd] at g1 g2 HB0 HBA ⊢
    obtain ⟨g10, g11⟩ := g1
    obtain ⟨g20, g21⟩ := g2
    have LA := Lib.hid la
    have LB := Lib.hid lb
    have lat : a.text.length ≤ 6291456 := by omega
    have lbt : b.text.length ≤ 6291456 := by omega
    have x1 : ¬ 9223372036854775807 < 1 + a.text.length := by omega
    have x2 : ¬ 9223372036854775807 < 1 + a.text.length + 1 := by omega
    have x3 : ¬ 9223372036854775807 < 1 + a.text.length + 1 + b.text.length := by omega
    have x4 : ¬ 9223372036854775807 < 1 + a.text.length + 1 + b.text.length + 1 := by omega
    clear hcs1 hcs2 hT1 hT2 hI1 hI2 la lb na nb nA nB lat lbt
    go_enter Tryz.func113, Tryz.ntmps113
    go_wp2_with fail
    go_region_held3 (fun w' => w'.cell? ⟨w.heap.size, 1, none⟩ = some (.slice (some ⟨b0, o, none⟩) 2 c) ∧ w'.cell? ⟨b0, o, none⟩ = some (.int .i64 a.kind) ∧ w'.cell? ⟨b0, o + 1, none⟩ = some (.slice p1 a.args.length c1) ∧ w'.cell? ⟨b0, o + 2, none⟩ = some (.int .i64 b.kind) ∧ w'.cell? ⟨b0, o + 2 + 1, none⟩ = some (.slice p2 b.args.length c2) ∧ Below w.heap.size w w')
      (first
        | (go_keep; done)
        | exact ⟨by simp [*], by simp [*], by simp [*], by simp [*], by simp [*], HB0.out⟩
        | exact keepS6 hb1 (by assumption)
        | exact keepS6 hb2 (by assumption))
      (first
        | (go_at_call_of 113 (Value.agg #[.int .i64 a.kind, .slice p1 a.args.length c1]); (first | refine (HA.out _ HB0.out).mono ?_ | refine (HA.out _ hx2).mono ?_); rintro e w1 ⟨rfl, hx1, hb1⟩)
        | (go_at_call_of 113 (Value.agg #[.int .i64 b.kind, .slice p2 b.args.length c2]); (first | refine (HB.out _ HB0.out).mono ?_ | refine (HB.out _ hx1).mono ?_); rintro e w2 ⟨rfl, hx2, hb2⟩))
    go_wp2_with fail
    rename_i hH
    go_ret
    exact ⟨by rw [cat_fun]; rfl, hH.2.2.2.2.2⟩
  · cases hc
    rw [text_code]
    clear hf
    obtain ⟨b0, o, p1, c1, rfl, hcs1, hT1, hI1⟩ := HH.out 0 a rfl
    have na : a.nodes ≤ 2097152 := by simp only [nodesS] at hn; omega
    have la := text_le _ a (Nat.le_refl _) ha
    have nA : nodesS a.args ≤ 2097152 := by rw [a.nodes_eq] at na; omega
    have HA := Lib.hid (fun (W : World) (hW : Below w.heap.size w W) => (hI1 W a.kind (HST.out.trans (.of_below hW)) nA (by rw [← a.eta]; exact ha)).mono (R' := fun e w' => e = .returned (.string ⟨a.text.toArray⟩) ∧ Below w.heap.size w w')
      (by rintro e w' ⟨rfl, hb⟩; exact ⟨by rw [← a.eta], hW.trans (hb.mono hW.size)⟩))
    have g1 := hcs1 _ (HST.out.trans (.of_below HBA.out))
    simp only [Nat.zero_mul, Nat.add_zero, List.length_cons, List.length_nil, Nat.zero_add] at g1 HBA ⊢
    obtain ⟨g10, g11⟩ := g1
    have LA := Lib.hid la
    have lat : a.text.length ≤ 6291456 := by omega
    clear hcs1 hT1 hI1 la na nA
    go_enter Tryz.func113, Tryz.ntmps113
    go_wp2_with fail
    refine (HA.out _ HBA.out).mono ?_
    rintro e w1 ⟨rfl, hx1⟩
    have HX := Lib.hid hx1
    clear hx1
    go_wp2_with fail
    go_ret
    exact ⟨by rw [cat_code]; rfl, HX.out⟩

set_option maxRecDepth 100000 in
set_option maxHeartbeats 1000000 in
theorem imFmt_any {C : Nat → Prop} {t : Ty} {v : Value} {w : World} (h : TT w C t v) (hn : nodesS t.args ≤ 2097152) :
    Calls Tryz.prog 69 #[v] w (StrRet (fmtT t) w) := by
  have HT := Lib.hid (fun w' (hb : Below w.heap.size w w') => h.keep hb)
  obtain ⟨s, rfl, hS⟩ := h
  obtain ⟨p, c, rfl⟩ := hS.form
  have HB0 := Lib.hid (alloc_below w (.cells #[.int .i64 t.kind, .slice p t.args.length c] 26))
  have HS := Lib.hid hS
  clear hS
  go_enter Tryz.func69, Tryz.ntmps69
  go_wp2_with fail
  refine (validI_any (HT.out _ HB0.out) hn).mono ?_
  rintro e w1 ⟨r, hr, rfl, hb1⟩
  have HB1 := Lib.hid (HB0.out.trans (hb1.mono HB0.out.size))
  obtain ⟨c0, c1⟩ := box2 hb1
  clear hb1
  by_cases hv : t.valid = true
  · obtain rfl : r = true := hr.trans hv
    have HC := Lib.hid (imText_any HS.out w1 t.kind (.of_below HB1.out) hn (by rw [← t.eta]; exact ((valid_iff t).1 hv).2.2))
    clear hr
    go_wp2_with fail
    refine HC.out.mono ?_
    rintro e w2 ⟨rfl, hb2⟩
    have HB2 := Lib.hid (HB1.out.trans (hb2.mono HB1.out.size))
    clear hb2
    go_wp2_with fail
    go_ret
    exact ⟨by rw [fmtT, if_pos hv, ← t.eta]; rfl, HB2.out⟩
  · obtain rfl : r = false := by rw [hr]; simpa using hv
    clear hr
    go_wp2_with fail
    go_ret
    exact ⟨by rw [fmtT, if_neg hv]; rfl, HB1.out⟩
end Go.Proofs.YtjobmgbchpoheaaGreatDoor
namespace Go.Proofs.YtjobmgbchpoheaaGreatDoor
open Go Go.RowKit
def bs (xs : List ByteArray) : List (List UInt8) := xs.map (·.data.toList)
def SS (w : World) (v : Value) (xs : List ByteArray) : Prop :=
  (xs = [] ∧ ∃ a c, v = .slice a 0 c) ∨
  (1 ≤ xs.length ∧ ∃ b o c, v = .slice (some ⟨b, o, none⟩) xs.length c ∧ xs.length ≤ c ∧ b < w.heap.size ∧ ∀ j x, xs[j]? = some x → w.cell? ⟨b, o + j, none⟩ = some (.string x))

theorem SS.below {w w' : World} {v : Value} {xs : List ByteArray} (h : SS w v xs) (hb : Below w.heap.size w w') : SS w' v xs := by
  rcases h with h | ⟨h1, b, o, c, rfl, hc, hlt, hcell⟩
  · exact Or.inl h
  · exact Or.inr ⟨h1, b, o, c, rfl, hc, Nat.lt_of_lt_of_le hlt hb.size, fun j x hj => (hb.cell (p := ⟨b, o + j, none⟩) hlt).trans (hcell j x hj)⟩
theorem ownsRow_below {w w' : World} {base : Nat} {e : TypeId} {size n : Nat} {v : Value} {xs : List Value} (h : w.ownsRow base e size v n xs) (hb : Below w.heap.size w w') : w'.ownsRow base e size v n xs := by
  refine ⟨h.1, ?_⟩
  rcases h.2 with h0 | ⟨g, cap, cur, rfl, hg, hblk, h1, h2, h3, h4⟩
  · exact Or.inl h0
  · refine Or.inr ⟨g, cap, cur, rfl, hg, ?_, h1, h2, h3, h4⟩
    have hlt : g < w.heap.size := by
      rcases Nat.lt_or_ge g w.heap.size with h' | h'
      · exact h'
      · rw [Array.getElem?_eq_none h'] at hblk; cases hblk
    rw [hb.block g hlt]; exact hblk
theorem SS_of_row {w : World} {base : Nat} {e : TypeId} {n : Nat} {v : Value} {xs : List ByteArray} (h : w.ownsRow base e 1 v n (xs.map Value.string)) : SS w v xs := by
  have hn : xs.length = n := by simpa using h.1
  rcases h.2 with ⟨rfl, h0⟩ | ⟨g, cap, cur, rfl, hg, hblk, h1, h2, h3, h4⟩
  · exact Or.inl ⟨List.eq_nil_of_length_eq_zero (by omega), _, _, rfl⟩
  · by_cases hz : n = 0
    · subst hz
      exact Or.inl ⟨List.eq_nil_of_length_eq_zero hn, _, _, rfl⟩
    · have hlt : g < w.heap.size := by
        rcases Nat.lt_or_ge g w.heap.size with h' | h'
        · exact h'
        · rw [Array.getElem?_eq_none h'] at hblk; cases hblk
      refine Or.inr ⟨by omega, g, 0, cap, by rw [hn], by omega, hlt, fun j x hj => ?_⟩
      have hj1 : j < n := by
        have := (List.getElem?_eq_some_iff.1 hj).1
        omega
      rw [Nat.zero_add, World.ownsRow.cellAt (xs := xs.map Value.string) (cap := cap) (n := n) h j (by omega), List.getElem?_map, hj]
      rfl
end Go.Proofs.YtjobmgbchpoheaaGreatDoor
namespace Go.Proofs.YtjobmgbchpoheaaGreatDoor
open Go Go.RowKit

theorem infoByte : (Tryz.prog.info? 5).map (fun i => (i.zero, i.size, i.bytes)) = some (some (.int .u8 0), 1, 1) := by kernel_rfl
def J (xs : List ByteArray) (sep : ByteArray) (k : Nat) : List UInt8 := Lib.join ((bs xs).take k) sep.data.toList
def bc (l : List UInt8) : List Value := l.map fun b => Value.int .u8 b.toNat
theorem bc_append (a b : List UInt8) : bc (a ++ b) = bc a ++ bc b := by simp [bc]
theorem J_zero (xs : List ByteArray) (sep : ByteArray) : J xs sep 0 = [] := by simp [J, Lib.join_nil]
theorem J_all (xs : List ByteArray) (sep : ByteArray) : J xs sep xs.length = Lib.join (bs xs) sep.data.toList := by
  unfold J; rw [List.take_of_length_le (by simp [bs])]
theorem J_one (xs : List ByteArray) (sep : ByteArray) (h : 0 < xs.length) : J xs sep 1 = (xs[0]).data.toList := by
  cases xs with
  | nil => simp at h
  | cons x r => simp [J, bs, Lib.join_one]
theorem J_step (xs : List ByteArray) (sep : ByteArray) (k : Nat) (h : k < xs.length) (h1 : 1 ≤ k) : J xs sep (k + 1) = J xs sep k ++ sep.data.toList ++ (xs[k]).data.toList := by
  cases xs with
  | nil => simp at h
  | cons x r =>
    obtain ⟨j, rfl⟩ : ∃ j, k = j + 1 := ⟨k - 1, by omega⟩
    have hj : j < r.length := by simpa using h
    simp only [J, bs, List.map_cons, List.take_succ_cons, Lib.join_cons]
    rw [Lib.joinTail_take_succ _ _ j (r[j]).data.toList (by rw [List.getElem?_map, List.getElem?_eq_getElem hj]; rfl)]
    simp [List.append_assoc]
theorem J_le (xs : List ByteArray) (sep : ByteArray) (k : Nat) : (J xs sep k).length ≤ (Lib.join (bs xs) sep.data.toList).length := by
  cases xs with
  | nil => simp [J, bs, Lib.join_nil]
  | cons x r =>
    cases k with
    | zero => simp [J, Lib.join_nil]
    | succ k =>
      simp only [J, bs, List.map_cons, List.take_succ_cons, Lib.join_cons, List.length_append]
      have := Lib.joinTail_take_le sep.data.toList (r.map (·.data.toList)) k
      omega
theorem row_one {xs : List ByteArray} {sep : ByteArray} {w : World} {base : Nat} {e : TypeId} {v : Value} (h0 : 0 < xs.length)
    (h : w.ownsRow base e 1 v (xs[0]).size (Lib.strCells xs[0])) : w.ownsRow base e 1 v (J xs sep 1).length (bc (J xs sep 1)) := by
  rw [J_one xs sep h0, ← Lib.size_eq]
  exact h
theorem row_step {xs : List ByteArray} {sep : ByteArray} {k : Nat} {w : World} {base : Nat} {e : TypeId} {v : Value} (hk : k < xs.length) (h1 : 1 ≤ k)
    (h : w.ownsRow base e 1 v ((J xs sep k).length + sep.size + (xs[k]).size) (bc (J xs sep k) ++ (Lib.strCells sep ++ Lib.strCells xs[k]))) : w.ownsRow base e 1 v (J xs sep (k + 1)).length (bc (J xs sep (k + 1))) := by
  rw [J_step xs sep k hk h1, List.length_append, List.length_append, ← Lib.size_eq, ← Lib.size_eq, bc_append, bc_append, List.append_assoc]
  exact h
theorem len_step {xs : List ByteArray} {sep : ByteArray} {k : Nat} (hk : k < xs.length) (h1 : 1 ≤ k) : (J xs sep k).length + sep.size + (xs[k]).size ≤ (Lib.join (bs xs) sep.data.toList).length := by
  have h := J_le xs sep (k + 1)
  rw [J_step xs sep k hk h1, List.length_append, List.length_append, ← Lib.size_eq, ← Lib.size_eq] at h
  exact h
theorem len_one {xs : List ByteArray} {sep : ByteArray} (h0 : 0 < xs.length) : (xs[0]).size ≤ (Lib.join (bs xs) sep.data.toList).length := by
  have h := J_le xs sep 1
  rw [J_one xs sep h0, ← Lib.size_eq] at h
  exact h
theorem string_of_row {w : World} {base : Nat} {v : Value} {l : List UInt8} (h : w.ownsRow base 5 1 v l.length (bc l)) : (convert 22 9 v).run Tryz.prog w = .ok (.string ⟨l.toArray⟩) w := by
  have h' := h
  rcases h.2 with ⟨rfl, h0⟩ | ⟨g, cap, cur, rfl, hg, hblk, h1, h2, h3, h4⟩
  · rw [List.eq_nil_of_length_eq_zero h0]
    exact Lib.run_convert_nil_bytes w _ _ _ 0 Tryz.underlying22 Tryz.underlying5 Tryz.underlying9
  · refine run_convert_bytes_back w _ _ _ _ cap l Tryz.underlying22 Tryz.underlying5 Tryz.underlying9 (fun j hj => ?_)
    refine h'.cells rfl j _ ?_
    unfold bc
    rw [List.getElem?_map, List.getElem?_eq_getElem hj]; rfl

set_option maxRecDepth 100000 in
set_option maxHeartbeats 1000000 in
theorem joinS_some (xs : List ByteArray) (sep : ByteArray) (b o c : Nat) (w : World) (h1 : 1 ≤ xs.length) (hn : xs.length ≤ 9223372036854775807) (hb : b < w.heap.size)
    (hlen : (Lib.join (bs xs) sep.data.toList).length ≤ 140737488355328) (hcell : ∀ j x, xs[j]? = some x → w.cell? ⟨b, o + j, none⟩ = some (.string x)) :
    Calls Tryz.prog 102 #[.slice (some ⟨b, o, none⟩) xs.length c, .string sep] w fun e w' => e = .returned (.string ⟨(Lib.join (bs xs) sep.data.toList).toArray⟩) ∧ Below w.heap.size w w' := by
  obtain ⟨i0, hi, hz0, hz1, hz2⟩ := info_parts infoByte
  have HC := Lib.hid hcell
  clear hcell
  go_enter Tryz.func102, Tryz.ntmps102
  go_wp2_with fail
  go_loopw [5, 6] (fun v i wr => ∃ k : Nat, k ≤ xs.length ∧ i = .int .i64 k ∧ wr.ownsRow w.heap.size 5 1 v (J xs sep k).length (bc (J xs sep k)) ∧ Below w.heap.size w wr) (fun _ i _ => xs.length - (intOf i).toNat)
  case atStart =>
    refine ⟨0, Nat.zero_le _, rfl, ?_, (Below.refl _ _).alloc (Nat.le_refl _) _⟩
    rw [J_zero]
    exact World.ownsRow_lit w #[] 0 (Nat.le_refl _) (Nat.zero_le _) rfl
  case round =>
    obtain ⟨k, hk, rfl, hown, hbr⟩ := hrel
    by_cases hlk : k < xs.length
    · have c1 : wr.cell? ⟨b, o + k, none⟩ = some (.string xs[k]) := (hbr.cell (p := ⟨b, o + k, none⟩) hb).trans (HC.out k _ (List.getElem?_eq_getElem hlk))
      have hsz := hbr.size
      by_cases hz : k = 0
      · subst hz
        have hL := len_one (sep := sep) hlk
        have c0 : wr.cell? ⟨b, o, none⟩ = some (.string xs[0]) := c1
        clear c1
        have HO := Lib.hid (show wr.ownsRow w.heap.size 5 1 u5 0 [] by rw [J_zero] at hown; exact hown)
        have HB := Lib.hid hbr
        clear hown hbr
        go_wp2_with (at_builtin; refine Lib.wpList_append_own_string _ rfl (.tmp 19) (.tmp 23) 22 9 rfl w.heap.size 5 i0 Tryz.underlying22 Tryz.underlying9 hi hz0 hz1 hz2 _ _ _ rfl HO.out xs[0] rfl ?c1 ?c2 ?c3 ?_)
        case c1 => unfold maxLen; omega
        case c2 => omega
        case c3 => exact hsz
        intro v' w2 hown2 hg _
        have hb2 : Below w.heap.size w w2 := HB.out.grown hg hsz (fun k h => (HO.out.lt k h).1)
        have HR := Lib.hid (row_one (sep := sep) hlk hown2)
        clear hg hown2
        go_wp2_with fail
        go_roundw
        case rel => exact ⟨1, by omega, by go_num, HR.out, hb2⟩
        case measure => simp [intOf]; omega
      · have hL := len_step (sep := sep) hlk (by omega)
        have HO := Lib.hid hown
        have HB := Lib.hid hbr
        clear hown hbr
        go_wp2_with (at_builtin; refine Lib.wpList_append_own_string _ rfl (.tmp 16) (.tmp 17) 22 9 rfl w.heap.size 5 i0 Tryz.underlying22 Tryz.underlying9 hi hz0 hz1 hz2 _ _ _ rfl HO.out sep rfl ?c1 ?c2 ?c3 ?_)
        case c1 => unfold maxLen; omega
        case c2 => omega
        case c3 => exact hsz
        intro v' w2 hown2 hg _
        have hb2 : Below w.heap.size w w2 := HB.out.grown hg hsz (fun k h => (HO.out.lt k h).1)
        have c2 : w2.cell? ⟨b, o + k, none⟩ = some (.string xs[k]) := (hb2.cell (p := ⟨b, o + k, none⟩) hb).trans (HC.out k _ (List.getElem?_eq_getElem hlk))
        have hsz2 := hb2.size
        have HO2 := Lib.hid hown2
        have HB2 := Lib.hid hb2
        clear hg hown2 hb2
        go_wp2_with (at_builtin; refine Lib.wpList_append_own_string _ rfl (.tmp 19) (.tmp 23) 22 9 rfl w.heap.size 5 i0 Tryz.underlying22 Tryz.underlying9 hi hz0 hz1 hz2 _ _ _ rfl HO2.out xs[k] rfl ?c1 ?c2 ?c3 ?_)
        case c1 => unfold maxLen; omega
        case c2 => omega
        case c3 => exact hsz2
        intro v3 w3 hown3 hg3 _
        have hb3 : Below w.heap.size w w3 := HB2.out.grown hg3 hsz2 (fun k h => (HO2.out.lt k h).1)
        have HR := Lib.hid (row_step hlk (by omega) hown3)
        clear hg3 hown3
        go_wp2_with fail
        go_roundw
        case rel => exact ⟨k + 1, by omega, by go_num, HR.out, hb3⟩
        case measure => simp [intOf]; omega
    · obtain rfl : k = xs.length := by omega
      rw [J_all] at hown
      have kc := string_of_row hown
      clear hown
      go_wp2_with fail
      go_ret
      exact ⟨rfl, hbr⟩

set_option maxRecDepth 100000 in
set_option maxHeartbeats 1000000 in
theorem joinS_none (a : Option Addr) (c : Nat) (sep : ByteArray) (w : World) :
    Calls Tryz.prog 102 #[.slice a 0 c, .string sep] w fun e w' => e = .returned (.string ⟨#[]⟩) ∧ Below w.heap.size w w' := by
  have kc : ∀ wx : World, wx.ownsRow w.heap.size 5 1 (.slice (some ⟨w.heap.size, 0, none⟩) 0 0) 0 [] → (convert 22 9 (.slice (some ⟨w.heap.size, 0, none⟩) 0 0)).run Tryz.prog wx = .ok (.string ⟨#[]⟩) wx :=
    fun wx h => string_of_row (l := []) h
  have k1 := kc (w.alloc (.cells #[] 5)) (World.ownsRow_lit w #[] 0 (Nat.le_refl _) (Nat.zero_le _) rfl)
  clear kc
  go_enter Tryz.func102, Tryz.ntmps102
  go_wp2_with fail
  go_loopw [5, 6] (fun v i wr => v = .slice (some ⟨w.heap.size, 0, none⟩) 0 0 ∧ i = .int .i64 0 ∧ wr = w.alloc (.cells #[] 5)) (fun _ _ _ => 0)
  case atStart => exact ⟨rfl, rfl, rfl⟩
  case round =>
    obtain ⟨rfl, rfl, rfl⟩ := hrel
    go_wp2_with fail
    go_ret
    exact ⟨rfl, (Below.refl _ _).alloc (Nat.le_refl _) _⟩
theorem joinS_any (xs : List ByteArray) (v : Value) (sep : ByteArray) (w : World) (hn : xs.length ≤ 9223372036854775807) (hlen : (Lib.join (bs xs) sep.data.toList).length ≤ 140737488355328) (h : SS w v xs) :
    Calls Tryz.prog 102 #[v, .string sep] w fun e w' => e = .returned (.string ⟨(Lib.join (bs xs) sep.data.toList).toArray⟩) ∧ Below w.heap.size w w' := by
  rcases h with ⟨rfl, a, c, rfl⟩ | ⟨h1, b, o, c, rfl, _, hb, hcell⟩
  · exact joinS_none a c sep w
  · exact joinS_some xs sep b o c w h1 hn hb hlen hcell
end Go.Proofs.YtjobmgbchpoheaaGreatDoor
namespace Go.Proofs.YtjobmgbchpoheaaGreatDoor
open Go Go.RowKit

theorem infoStr : (Tryz.prog.info? 9).map (fun i => (i.zero, i.size, i.bytes)) = some (some (.string ⟨#[]⟩), 1, 16) := by kernel_rfl

def Filled (xs : List ByteArray) (k : Nat) : List Value := (xs.take k).map Value.string ++ List.replicate (xs.length - k) (.string ⟨#[]⟩)
end Go.Proofs.YtjobmgbchpoheaaGreatDoor
namespace Go.Proofs.YtjobmgbchpoheaaGreatDoor
open Go Go.RowKit
def Own (w : World) (base : Nat) (v : Value) (xs : List ByteArray) : Prop := w.ownsRow base 9 1 v xs.length (xs.map Value.string)
theorem Own.ss {w : World} {base : Nat} {v : Value} {xs : List ByteArray} (h : Own w base v xs) : SS w v xs := SS_of_row h
theorem Own.below {w w' : World} {base : Nat} {v : Value} {xs : List ByteArray} (h : Own w base v xs) (hb : Below w.heap.size w w') : Own w' base v xs := ownsRow_below h hb
theorem own_empty (w : World) : Own (w.alloc (.cells #[] 9)) w.heap.size (.slice (some ⟨w.heap.size, 0, none⟩) 0 0) [] :=
  World.ownsRow_lit w #[] 0 (Nat.le_refl _) (Nat.zero_le _) rfl

theorem wpList_app_str {w0 : World} {ops : Array Oper} {rest : List Oper} {o : Oper} {a : Act} {Q : Exit → Act → World → Prop} (hgd : o.guard = none) (s x : Operand)
    (ho : o.op = .call { callee := .builtin .append, args := #[s, x], argTypes := #[53, 53] })
    (base : Nat) (v : Value) (xs : List ByteArray) (hs : a.eval s = v) (hown : Own w0 base v xs) (y : ByteArray)
    (hx : a.eval x = .slice (some ⟨w0.heap.size, 0, none⟩) 1 1) (hlen : xs.length ≤ 8388608) (hbase : base ≤ w0.heap.size)
    (h : ∀ v' w', Own w' base v' (xs ++ [y]) → Below base w0 w' → wpList Tryz.prog ops Q rest (a.put o.dst v') w') :
    wpList Tryz.prog ops Q (o :: rest) a (w0.alloc (.cells #[.string y] 9)) := by
  obtain ⟨i0, hi, hz0, hz1, hz2⟩ := info_parts infoStr
  have hown1 := hown.below ((Below.refl w0.heap.size w0).alloc (Nat.le_refl _) (.cells #[.string y] 9))
  refine wpList_append_own _ hgd s x 53 ho base 9 i0 (.string ⟨#[]⟩) 1 16 Tryz.underlying53 hi hz0 hz1 hz2 rfl (by decide) v xs.length (xs.map Value.string) hs hown1
    ⟨w0.heap.size, 0, none⟩ 1 1 [.string y] hx rfl (cell_one_new _ _ _) (fun u hu => by simp at hu; subst hu; rfl) (by unfold maxLen; omega) (by omega) (by simp; omega) ?_
  intro v' w' hown' hg _
  refine h v' w' ?_ ?_
  · have e : (xs ++ [y]).map Value.string = xs.map Value.string ++ [Value.string y] := by simp
    have e1 : (xs ++ [y]).length = xs.length + 1 := by simp
    unfold Own
    rw [e, e1]
    exact hown'
  · exact ((Below.refl base w0).alloc hbase _).grown hg (by simp; omega) (fun k hk => (hown1.lt k hk).1)
end Go.Proofs.YtjobmgbchpoheaaGreatDoor
