/-
  The contracts of the model's text of a type, and FormatType.
-/
import Derived.Test.YtnciibngcaajgaaTyText
import Derived.Test.YtnciibngcaajgaaSpecTy3
namespace Go.Proofs.Ytnciibngcaajgaa
open Go Go.RowKit

def StrRet (x : List UInt8) (w : World) (e : Ending) (w' : World) : Prop := e = .returned (.string ⟨x.toArray⟩) ∧ Below w.heap.size w w'
theorem cat_fun (a b : List UInt8) : (⟨#[40]⟩ : ByteArray) ++ ⟨a.toArray⟩ ++ ⟨#[62]⟩ ++ ⟨b.toArray⟩ ++ ⟨#[41]⟩ = ⟨(40 :: (a ++ 62 :: (b ++ [41]))).toArray⟩ := by
  apply ByteArray.ext
  simp
theorem cat_code (a : List UInt8) : (⟨#[60]⟩ : ByteArray) ++ ⟨a.toArray⟩ ++ ⟨#[62]⟩ = ⟨(60 :: (a ++ [62])).toArray⟩ := by
  apply ByteArray.ext
  simp
theorem keepS6 {w W w1 : World} {p1 p2 p3 p4 p5 : Addr} {v1 v2 v3 v4 v5 : Value} (hb1 : Below W.heap.size W w1) (h : W.cell? p1 = some v1 ∧ W.cell? p2 = some v2 ∧ W.cell? p3 = some v3 ∧ W.cell? p4 = some v4 ∧ W.cell? p5 = some v5 ∧ Below w.heap.size w W) :
    w1.cell? p1 = some v1 ∧ w1.cell? p2 = some v2 ∧ w1.cell? p3 = some v3 ∧ w1.cell? p4 = some v4 ∧ w1.cell? p5 = some v5 ∧ Below w.heap.size w w1 := by
  have k : ∀ {p : Addr} {v : Value}, W.cell? p = some v → w1.cell? p = some v := fun {p v} hp => (hb1.cell (World.block_lt_of_cell? W _ hp)).trans hp
  obtain ⟨h1, h2, h3, h4, h5, h6⟩ := h
  exact ⟨k h1, k h2, k h3, k h4, k h5, h6.trans (hb1.mono h6.size)⟩

set_option maxRecDepth 100000 in
set_option maxHeartbeats 1000000 in
theorem spText_any {w0 : World} {C : Nat → Prop} {ts : List Ty} {v : Value} (h : TS w0 C ts v) : ∀ (w : World) (q : Int), Stays C w0 w → nodesS ts ≤ 1048576 → (Ty.mk q ts).form = true →
    Calls Try.prog 74 #[.agg #[.int .i64 q, v]] w (StrRet (Ty.mk q ts).text w) := by
  refine TS.ind (motive := fun ts v => ∀ (w : World) (q : Int), Stays C w0 w → nodesS ts ≤ 1048576 → (Ty.mk q ts).form = true → Calls Try.prog 74 #[.agg #[.int .i64 q, v]] w (StrRet (Ty.mk q ts).text w)) ?_ h
  intro ts p c hl H w q hst hn hf
  have HH := Lib.hid H
  have HST := Lib.hid hst
  clear H hst
  have HB0 := Lib.hid ((alloc_below w (.cells #[.int .i64 q, .slice p ts.length c] 26)).drew)
  have HBA := Lib.hid (alloc_below w (.cells #[.int .i64 q, .slice p ts.length c] 26))
  rcases form_cases hf with hc | hc | ⟨a, b, hc, ha, hb⟩ | ⟨a, hc, ha⟩
  · cases hc
    rw [text_int]
    go_enter Try.func74, Try.ntmps74
    go_wp2_with fail
    go_ret
    exact ⟨rfl, HBA.out⟩
  · cases hc
    rw [text_bool]
    go_enter Try.func74, Try.ntmps74
    go_wp2_with fail
    go_ret
    exact ⟨rfl, HBA.out⟩
  · cases hc
    rw [text_fun]
    clear hf
    obtain ⟨b0, o, p1, c1, rfl, hcs1, hT1, hI1⟩ := HH.out 0 a rfl
    obtain ⟨b1, o1, p2, c2, hp2, hcs2, hT2, hI2⟩ := HH.out 1 b rfl
    simp only [Option.some.injEq, Addr.mk.injEq, and_true] at hp2
    obtain ⟨rfl, rfl⟩ := hp2
    have na : a.nodes ≤ 1048576 := by simp only [nodesS] at hn; omega
    have nb : b.nodes ≤ 1048576 := by simp only [nodesS] at hn; omega
    have la := text_le _ a (Nat.le_refl _) ha
    have lb := text_le _ b (Nat.le_refl _) hb
    have nA : nodesS a.args ≤ 1048576 := by rw [a.nodes_eq] at na; omega
    have nB : nodesS b.args ≤ 1048576 := by rw [b.nodes_eq] at nb; omega
    have HA := Lib.hid (fun (W : World) (hW : Below w.heap.size w W) => (hI1 W a.kind (HST.out.trans (.of_below hW)) nA (by rw [← a.eta]; exact ha)).mono (R' := fun e w' => e = .returned (.string ⟨a.text.toArray⟩) ∧ Below w.heap.size w w' ∧ Below W.heap.size W w')
      (by rintro e w' ⟨rfl, hb⟩; exact ⟨by rw [← a.eta], hW.trans (hb.mono hW.size), hb⟩))
    have HB := Lib.hid (fun (W : World) (hW : Below w.heap.size w W) => (hI2 W b.kind (HST.out.trans (.of_below hW)) nB (by rw [← b.eta]; exact hb)).mono (R' := fun e w' => e = .returned (.string ⟨b.text.toArray⟩) ∧ Below w.heap.size w w' ∧ Below W.heap.size W w')
      (by rintro e w' ⟨rfl, hb⟩; exact ⟨by rw [← b.eta], hW.trans (hb.mono hW.size), hb⟩))
    have g1 := hcs1 _ (HST.out.trans (.of_below HB0.out))
    have g2 := hcs2 _ (HST.out.trans (.of_below HB0.out))
    simp only [Nat.zero_mul, Nat.one_mul, Nat.add_zero, List.length_cons, List.length_nil, Nat.zero_add, Nat.reduceAdd] at g1 g2 HB0 HBA ⊢
    obtain ⟨g10, g11⟩ := g1
    obtain ⟨g20, g21⟩ := g2
    have LA := Lib.hid la
    have LB := Lib.hid lb
    have lat : a.text.length ≤ 3145728 := by omega
    have lbt : b.text.length ≤ 3145728 := by omega
    have x1 : ¬ 9223372036854775807 < 1 + a.text.length := by omega
    have x2 : ¬ 9223372036854775807 < 1 + a.text.length + 1 := by omega
    have x3 : ¬ 9223372036854775807 < 1 + a.text.length + 1 + b.text.length := by omega
    have x4 : ¬ 9223372036854775807 < 1 + a.text.length + 1 + b.text.length + 1 := by omega
    clear hcs1 hcs2 hT1 hT2 hI1 hI2 la lb na nb nA nB lat lbt
    go_enter Try.func74, Try.ntmps74
    go_wp2_with fail
    go_region_held3 (fun w' => w'.cell? ⟨w.heap.size, 1, none⟩ = some (.slice (some ⟨b0, o, none⟩) 2 c) ∧ w'.cell? ⟨b0, o, none⟩ = some (.int .i64 a.kind) ∧ w'.cell? ⟨b0, o + 1, none⟩ = some (.slice p1 a.args.length c1) ∧ w'.cell? ⟨b0, o + 2, none⟩ = some (.int .i64 b.kind) ∧ w'.cell? ⟨b0, o + 2 + 1, none⟩ = some (.slice p2 b.args.length c2) ∧ Below w.heap.size w w')
      (first
        | (go_keep; done)
        | exact ⟨by simp [*], by simp [*], by simp [*], by simp [*], by simp [*], HB0.out⟩
        | exact keepS6 hb1 (by assumption)
        | exact keepS6 hb2 (by assumption))
      (first
        | (go_at_call_of 74 (Value.agg #[.int .i64 a.kind, .slice p1 a.args.length c1]); (first | refine (HA.out _ HB0.out).mono ?_ | refine (HA.out _ hx2).mono ?_); rintro e w1 ⟨rfl, hx1, hb1⟩)
        | (go_at_call_of 74 (Value.agg #[.int .i64 b.kind, .slice p2 b.args.length c2]); (first | refine (HB.out _ HB0.out).mono ?_ | refine (HB.out _ hx1).mono ?_); rintro e w2 ⟨rfl, hx2, hb2⟩))
    go_wp2_with fail
    rename_i hH
    go_ret
    exact ⟨by rw [cat_fun]; rfl, hH.2.2.2.2.2⟩
  · cases hc
    rw [text_code]
    clear hf
    obtain ⟨b0, o, p1, c1, rfl, hcs1, hT1, hI1⟩ := HH.out 0 a rfl
    have na : a.nodes ≤ 1048576 := by simp only [nodesS] at hn; omega
    have la := text_le _ a (Nat.le_refl _) ha
    have nA : nodesS a.args ≤ 1048576 := by rw [a.nodes_eq] at na; omega
    have HA := Lib.hid (fun (W : World) (hW : Below w.heap.size w W) => (hI1 W a.kind (HST.out.trans (.of_below hW)) nA (by rw [← a.eta]; exact ha)).mono (R' := fun e w' => e = .returned (.string ⟨a.text.toArray⟩) ∧ Below w.heap.size w w')
      (by rintro e w' ⟨rfl, hb⟩; exact ⟨by rw [← a.eta], hW.trans (hb.mono hW.size)⟩))
    have g1 := hcs1 _ (HST.out.trans (.of_below HBA.out))
    simp only [Nat.zero_mul, Nat.add_zero, List.length_cons, List.length_nil, Nat.zero_add] at g1 HBA ⊢
    obtain ⟨g10, g11⟩ := g1
    have LA := Lib.hid la
    have lat : a.text.length ≤ 3145728 := by omega
    clear hcs1 hT1 hI1 la na nA
    go_enter Try.func74, Try.ntmps74
    go_wp2_with fail
    refine (HA.out _ HBA.out).mono ?_
    rintro e w1 ⟨rfl, hx1⟩
    have HX := Lib.hid hx1
    clear hx1
    go_wp2_with fail
    go_ret
    exact ⟨by rw [cat_code]; rfl, HX.out⟩

set_option maxRecDepth 100000 in
set_option maxHeartbeats 1000000 in
theorem spFmt_any {C : Nat → Prop} {t : Ty} {v : Value} {w : World} (h : TT w C t v) (hn : nodesS t.args ≤ 1048576) :
    Calls Try.prog 34 #[v] w (StrRet (fmtT t) w) := by
  have HT := Lib.hid (fun w' (hb : Below w.heap.size w w') => h.keep hb)
  obtain ⟨s, rfl, hS⟩ := h
  obtain ⟨p, c, rfl⟩ := hS.form
  have HB0 := Lib.hid (alloc_below w (.cells #[.int .i64 t.kind, .slice p t.args.length c] 26))
  have HS := Lib.hid hS
  clear hS
  go_enter Try.func34, Try.ntmps34
  go_wp2_with fail
  refine (valid_any (HT.out _ HB0.out) hn).mono ?_
  rintro e w1 ⟨r, hr, rfl, hb1⟩
  have HB1 := Lib.hid (HB0.out.trans (hb1.mono HB0.out.size))
  obtain ⟨c0, c1⟩ := box2 hb1
  clear hb1
  by_cases hv : t.valid = true
  · obtain rfl : r = true := hr.trans hv
    have HC := Lib.hid (spText_any HS.out w1 t.kind (.of_below HB1.out) hn (by rw [← t.eta]; exact ((valid_iff t).1 hv).2.2))
    clear hr
    go_wp2_with fail
    refine HC.out.mono ?_
    rintro e w2 ⟨rfl, hb2⟩
    have HB2 := Lib.hid (HB1.out.trans (hb2.mono HB1.out.size))
    clear hb2
    go_wp2_with fail
    go_ret
    exact ⟨by rw [fmtT, if_pos hv, ← t.eta]; rfl, HB2.out⟩
  · obtain rfl : r = false := by rw [hr]; simpa using hv
    clear hr
    go_wp2_with fail
    go_ret
    exact ⟨by rw [fmtT, if_neg hv]; rfl, HB1.out⟩
end Go.Proofs.Ytnciibngcaajgaa

