/-
  The contract of the model's ParseType.
-/
import Derived.Test.YtnciibngcaajgaaTypS2
import Derived.Test.YtnciibngcaajgaaTextS
namespace Go.Proofs.Ytnciibngcaajgaa
open Go Go.RowKit

/-- What ParseType answers: the type that the text is, or the zero type and false. -/
def ParseRet (s : ByteArray) (w : World) (e : Ending) (w' : World) : Prop :=
  ∃ v, e = .returned (.tuple #[v, .bool (parseT s.data.toList).isSome]) ∧ TT w' (fun z => w.heap.size ≤ z) ((parseT s.data.toList).getD (.mk 0 [])) v ∧ Below w.heap.size w w'
theorem parse_fin {w W : World} {s : ByteArray} {t : Ty} {p : Value} {o : Bool} (hb : Below w.heap.size w W) (hT : TS W (fun z => w.heap.size + 1 ≤ z) t.args p)
    (ho : (parseT s.data.toList = some t ∧ o = true) ∨ (parseT s.data.toList = none ∧ t = .mk 0 [] ∧ o = false)) :
    ParseRet s w (.returned (.tuple #[.agg #[.int .i64 t.kind, p], .bool o])) ((W.setCell ⟨w.heap.size, 0, none⟩ (.int .i64 t.kind)).setCell ⟨w.heap.size, 1, none⟩ p) := by
  have hst : ∀ F : Nat → Prop, ¬ F w.heap.size → Stays F W ((W.setCell ⟨w.heap.size, 0, none⟩ (.int .i64 t.kind)).setCell ⟨w.heap.size, 1, none⟩ p) := fun F hF => (setCell_stays _ _ _ _ F hF).trans (setCell_stays _ _ _ _ F hF)
  have hbl : Below w.heap.size W ((W.setCell ⟨w.heap.size, 0, none⟩ (.int .i64 t.kind)).setCell ⟨w.heap.size, 1, none⟩ p) := ((Below.refl _ W).setCell (p := ⟨w.heap.size, 0, none⟩) (Nat.le_refl _) _).setCell (p := ⟨w.heap.size, 1, none⟩) (Nat.le_refl _) _
  have hT' : TT ((W.setCell ⟨w.heap.size, 0, none⟩ (.int .i64 t.kind)).setCell ⟨w.heap.size, 1, none⟩ p) (fun z => w.heap.size ≤ z) t (.agg #[.int .i64 t.kind, p]) := ⟨p, rfl, (hT.stays (hst _ (by omega))).mono (fun z hz _ => by omega)⟩
  rcases ho with ⟨h, rfl⟩ | ⟨h, ht, rfl⟩
  · exact ⟨_, by rw [h]; rfl, by rw [h]; exact hT', hb.trans hbl⟩
  · exact ⟨_, by rw [h]; rfl, by rw [h]; subst ht; exact hT', hb.trans hbl⟩
theorem size_list (s : ByteArray) : s.data.toList.length = s.size := by simp

set_option maxRecDepth 100000 in
set_option maxHeartbeats 1000000 in
theorem parseS_any (s : ByteArray) (hs : s.size ≤ 1073741824) (w : World) : Calls Try.prog 36 #[.string s] w (ParseRet s w) := by
  obtain ⟨w1, hw1⟩ : ∃ w1, (w.alloc (.cells #[.int .i64 0, .slice none 0 0] 26)).alloc (.cells #[.string s, .int .i64 0, .bool false] 88) = w1 := ⟨_, rfl⟩
  have hb1 : Below w.heap.size w w1 := by rw [← hw1]; exact (alloc_below _ _).trans ((alloc_below _ _).mono (by simp))
  have hrd : Rd w1 (w.heap.size + 1) s 0 false := by
    have := blk_new (w.alloc (.cells #[.int .i64 0, .slice none 0 0] 26)) (.cells #[.string s, .int .i64 0, .bool false] 88)
    rw [World.size_alloc, hw1] at this
    exact this
  have hr0 : w1.heap[w.heap.size]? = some (.cells #[.int .i64 0, .slice none 0 0] 26 (0, 0)) := by
    rw [← hw1]; exact al_blk (blk_new w _) _
  have hz1 : w1.heap.size = w.heap.size + 2 := by rw [← hw1]; simp
  have hC := typ_any (w.heap.size + 1) s hs 8 (Nat.le_refl _) 0 w1 (Nat.zero_le _) hrd
  rw [show (9 - ((8 : Nat) : Int)) = 1 from rfl, ← hw1] at hC
  have HC := Lib.hid hC
  have HW1 := Lib.hid hw1
  have HB1 := Lib.hid hb1
  have HR0 := Lib.hid hr0
  have HZ1 := Lib.hid hz1
  clear hC hw1 hb1 hrd hr0 hz1
  go_enter Try.func36, Try.ntmps36
  go_wp2_with fail
  refine HC.out.mono ?_
  rintro e w2 ⟨v2, t, rfl, ⟨s2, rfl, hs2⟩, hg2, ho2⟩
  rw [HW1.out] at hs2 hg2
  obtain ⟨p2, c2, rfl⟩ := hs2.form
  have hz := HZ1.out
  have hsz := hg2.size
  have hba := alloc_below w2 (.cells #[.int .i64 t.kind, .slice p2 t.args.length c2] 26)
  have hbx := Bx.new w2 t.kind (.slice p2 t.args.length c2) 26
  have hr2 := (hba.block _ (by omega)).trans ((hg2.block w.heap.size (by omega) (fun e => by have := Option.some.inj e; omega)).trans HR0.out)
  have hB3 : Below w.heap.size w (w2.alloc (.cells #[.int .i64 t.kind, .slice p2 t.args.length c2] 26)) :=
    (HB1.out.grown hg2 (by omega) (fun k hk => by cases hk; omega)).trans (hba.mono (by omega))
  have HS3 := Lib.hid ((hs2.mono (C' := fun z => w.heap.size + 1 ≤ z) (fun z hz' _ => by have : w1.heap.size ≤ z := hz'; omega)).keep hba)
  have g0 : (w2.alloc (.cells #[.int .i64 t.kind, .slice p2 t.args.length c2] 26)).cell? ⟨w.heap.size, 0, none⟩ = some (.int .i64 0) := cell_of_blk hr2 0
  have g1 : (w2.alloc (.cells #[.int .i64 t.kind, .slice p2 t.args.length c2] 26)).cell? ⟨w.heap.size, 1, none⟩ = some (.slice none 0 0) := cell_of_blk hr2 1
  have gz := unfrozen_of_blk hr2
  have HR2 := Lib.hid hr2
  have HB3 := Lib.hid hB3
  obtain ⟨x0, x1⟩ := hbx
  have HBX := Lib.hid (Bx.new w2 t.kind (.slice p2 t.args.length c2) 26)
  clear hz hsz hr2 hB3 hs2 hg2
  rcases ho2 with ⟨j, hp, hrd⟩ | ⟨hp, j, hj, hrd⟩
  · have hrd3 : Rd (w2.alloc (.cells #[.int .i64 t.kind, .slice p2 t.args.length c2] 26)) (w.heap.size + 1) s j false := (hba.block _ hrd.lt).trans hrd
    obtain ⟨d0, d1, d2, _, _⟩ := hrd3.cells
    have hgood := pty_good _ _ _ _ _ hp
    have hn : nodesS t.args ≤ 1048576 := by have := hgood.nodes; rw [t.nodes_eq] at this; omega
    have HP := Lib.hid hp
    clear hrd hrd3 hba hp
    by_cases hj : j = s.size
    · have j1 : j ≤ s.size := by omega
      have j2 : s.size ≤ j := by omega
      have HJ := Lib.hid (hj.trans (size_list s).symm)
      have HF := Lib.hid (spFmt_any (v := .agg #[.int .i64 t.kind, .slice p2 t.args.length c2]) ⟨_, rfl, HS3.out⟩ hn)
      clear hj hgood
      have HPO := Lib.hid (parse_of HP.out)
      have HPT := Lib.hid (parse_test HP.out HJ.out)
      by_cases hv : t.valid = true
      · have e2 : (fmtT t == s.toList) = true := by rw [beq_iff_eq, Lib.toList_data]; exact HPT.out.2 hv
        go_wp2_with fail
        refine HF.out.mono ?_
        rintro e w4 ⟨rfl, hb4⟩
        have HB4 := Lib.hid (HB3.out.trans (hb4.mono HB3.out.size))
        have hr4 := (hb4.block _ (Array.getElem?_eq_some_iff.1 HR2.out).1).trans HR2.out
        obtain ⟨y0, y1⟩ := HBX.out.keep hb4
        have f0 : w4.cell? ⟨w.heap.size, 0, none⟩ = some (.int .i64 0) := cell_of_blk hr4 0
        have f1 : w4.cell? ⟨w.heap.size, 1, none⟩ = some (.slice none 0 0) := cell_of_blk hr4 1
        have fz := unfrozen_of_blk hr4
        have HS4 := Lib.hid (HS3.out.keep hb4)
        clear hb4 hr4 g0 g1 gz x0 x1 d0 d1 d2
        go_wp2_with fail
        refine bodyPost_ret (v := .tuple #[.agg #[.int .i64 t.kind, .slice p2 t.args.length c2], .bool true]) ?_ rfl ?_
        · rw [results_cs rfl]
          go_simp
        · exact parse_fin HB4.out HS4.out (Or.inl ⟨by rw [HPO.out, if_pos ⟨HJ.out, hv⟩], rfl⟩)
      · have e2 : (fmtT t == s.toList) = false := by rw [beq_eq_false_iff_ne, Lib.toList_data]; exact fun h => hv (HPT.out.1 h)
        go_wp2_with fail
        refine HF.out.mono ?_
        rintro e w4 ⟨rfl, hb4⟩
        have HB4 := Lib.hid (HB3.out.trans (hb4.mono HB3.out.size))
        have hr4 := (hb4.block _ (Array.getElem?_eq_some_iff.1 HR2.out).1).trans HR2.out
        have f0 : w4.cell? ⟨w.heap.size, 0, none⟩ = some (.int .i64 0) := cell_of_blk hr4 0
        have f1 : w4.cell? ⟨w.heap.size, 1, none⟩ = some (.slice none 0 0) := cell_of_blk hr4 1
        have fz := unfrozen_of_blk hr4
        clear hb4 hr4 g0 g1 gz x0 x1 d0 d1 d2
        go_wp2_with fail
        refine bodyPost_ret (v := .tuple #[.agg #[.int .i64 0, .slice none 0 0], .bool false]) ?_ rfl ?_
        · rw [results_cs rfl]
          go_simp
        · exact parse_fin (t := .mk 0 []) HB4.out (.nil _ _) (Or.inr ⟨by rw [HPO.out, if_neg (fun h => hv h.2)], rfl, rfl⟩)
    · have j1 : j < s.size := by have := hgood.le; rw [size_list] at this; omega
      have HPO := Lib.hid (parse_of HP.out)
      have HJ := Lib.hid hj
      clear hj hgood
      go_wp2_with fail
      refine bodyPost_ret (v := .tuple #[.agg #[.int .i64 0, .slice none 0 0], .bool false]) ?_ rfl ?_
      · rw [results_cs rfl]
        go_simp
      · exact parse_fin (t := .mk 0 []) HB3.out (.nil _ _) (Or.inr ⟨by rw [HPO.out, if_neg (fun h => HJ.out (h.1.trans (size_list s)))], rfl, rfl⟩)
  · have hrd3 : Rd (w2.alloc (.cells #[.int .i64 t.kind, .slice p2 t.args.length c2] 26)) (w.heap.size + 1) s j true := (hba.block _ hrd.lt).trans hrd
    obtain ⟨d0, d1, d2, _, _⟩ := hrd3.cells
    have HP := Lib.hid hp
    clear hrd hrd3 hba hp
    go_wp2_with fail
    refine bodyPost_ret (v := .tuple #[.agg #[.int .i64 0, .slice none 0 0], .bool false]) ?_ rfl ?_
    · rw [results_cs rfl]
      go_simp
    · exact parse_fin (t := .mk 0 []) HB3.out (.nil _ _) (Or.inr ⟨parse_no HP.out, rfl, rfl⟩)
end Go.Proofs.Ytnciibngcaajgaa

