/-
  An argument that is a term, opened: the tree that it reads as.
-/
import Derived.Test.YtdfnjfelmfccjaaOpenT
import Derived.Test.YtdfnjfelmfccjaaTmSz
namespace Go.Proofs.Ytdfnjfelmfccjaa
open Go Go.ChangeShapes Go.WideShapes Go.RowKit

theorem cells_tm : Try.prog.cellsOf 27 = 9 := by kernel_rfl
theorem cells_str : Try.prog.cellsOf 9 = 1 := by kernel_rfl
theorem cells_slm : Try.prog.cellsOf 25 = 1 := by kernel_rfl

section
variable {H : Type} {enc : TypeId × Value → H} {w : World} {spare : Nat → Bool} {held : Bool}

theorem cell_of_cells9 {a : Addr} {cs : List Value} {base i : Nat} (h : w.cells? base (a.add (i * 9)) 9 = some cs) : cs.length = 9 ∧ ∀ j, j < 9 → w.cell? (a.add (i * 9 + j)) = cs[j]? := by
  unfold World.cells? at h
  split at h
  · have e : (List.range 9) = [0, 1, 2, 3, 4, 5, 6, 7, 8] := rfl
    rw [e] at h
    simp only [List.mapM_cons, List.mapM_nil, Option.bind_eq_bind, Option.bind_eq_some_iff, Option.pure_def, Option.some.injEq] at h
    obtain ⟨v0, h0, _, ⟨v1, h1, _, ⟨v2, h2, _, ⟨v3, h3, _, ⟨v4, h4, _, ⟨v5, h5, _, ⟨v6, h6, _, ⟨v7, h7, _, ⟨v8, h8, _, rfl, rfl⟩, rfl⟩, rfl⟩, rfl⟩, rfl⟩, rfl⟩, rfl⟩, rfl⟩, rfl⟩ := h
    rw [Go.Deep.add_add] at h0 h1 h2 h3 h4 h5 h6 h7 h8
    refine ⟨rfl, fun j hj => ?_⟩
    match j, hj with
    | 0, _ => exact h0
    | 1, _ => exact h1
    | 2, _ => exact h2
    | 3, _ => exact h3
    | 4, _ => exact h4
    | 5, _ => exact h5
    | 6, _ => exact h6
    | 7, _ => exact h7
    | 8, _ => exact h8
    | n + 9, hj => omega
  · cases h

set_option maxRecDepth 100000 in
set_option maxHeartbeats 2000000 in
/-- What a term's nine cells read as; what a slice of terms reads as. -/
theorem open_tm : ∀ (fuel : Nat), (∀ (cs : List Value) (x : DataW H × List MemPlace), DataW.trod enc Try.prog w 0 spare held fuel 27 cs = some x → ∃ (t : Tm) (tp : Option Addr) (tc : Nat) (rp : Option Addr) (rc : Nat) (p : Option Addr) (c : Nat),
      cs = (tmC t tp tc rp rc p c).toList ∧ TM' w (fun _ => True) t tp tc rp rc p c ∧ t.fit) ∧
    (∀ (cs : List Value) (x : DataW H × List MemPlace), DataW.trod enc Try.prog w 0 spare held fuel 25 cs = some x → ∃ (s : Value) (ts : List Tm), cs = [s] ∧ DM w (fun _ => True) (tmD ts) s ∧ fitS ts) := by
  intro fuel
  induction fuel using Nat.strongRecOn with
  | _ fuel IH =>
    constructor
    · intro cs x h
      obtain ⟨xs, n, hn, _, hl, hlen, hf⟩ := DataW.trod_struct Try.underlying27 h
      rw [cells_tm] at hl
      have g0 : DataW.trod enc Try.prog w 0 spare held n 3 ((cs.drop 0).take (Try.prog.cellsOf 3)) = xs[0]? := hf 0 _ rfl
      have g1 : DataW.trod enc Try.prog w 0 spare held n 9 ((cs.drop 1).take (Try.prog.cellsOf 9)) = xs[1]? := hf 1 _ rfl
      have g2 : DataW.trod enc Try.prog w 0 spare held n 9 ((cs.drop 2).take (Try.prog.cellsOf 9)) = xs[2]? := hf 2 _ rfl
      have g3 : DataW.trod enc Try.prog w 0 spare held n 3 ((cs.drop 3).take (Try.prog.cellsOf 3)) = xs[3]? := hf 3 _ rfl
      have g4 : DataW.trod enc Try.prog w 0 spare held n 24 ((cs.drop 4).take (Try.prog.cellsOf 24)) = xs[4]? := hf 4 _ rfl
      have g5 : DataW.trod enc Try.prog w 0 spare held n 24 ((cs.drop 6).take (Try.prog.cellsOf 24)) = xs[5]? := hf 5 _ rfl
      have g6 : DataW.trod enc Try.prog w 0 spare held n 25 ((cs.drop 8).take (Try.prog.cellsOf 25)) = xs[6]? := hf 6 _ rfl
      rw [cells_int] at g0 g3
      rw [cells_str] at g1 g2
      rw [cells_ty] at g4 g5
      rw [cells_slm] at g6
      match cs, hl, xs, hlen with
      | [c0, c1, c2, c3, c4, c5, c6, c7, c8], _, [y0, y1, y2, y3, y4, y5, y6], _ =>
        obtain ⟨k, hk, _, _⟩ := DataW.trod_int Try.underlying3 g0
        obtain ⟨sa, ha, _, za⟩ := DataW.trod_string Try.underlying9 g1
        obtain ⟨sb, hb, _, zb⟩ := DataW.trod_string Try.underlying9 g2
        obtain ⟨nn, hnn, _, _⟩ := DataW.trod_int Try.underlying3 g3
        obtain ⟨kt, st, tts, hst, htt⟩ := (open_ty n).1 _ _ g4
        obtain ⟨kr, sr, rts, hsr, hrt⟩ := (open_ty n).1 _ _ g5
        obtain ⟨s, ts, hs, ht, hfit⟩ := (IH n (by omega)).2 _ _ g6
        simp only [List.drop_zero, List.drop_succ_cons, List.take_succ_cons, List.take_zero, List.cons.injEq, and_true] at hk ha hb hnn hst hsr hs
        obtain ⟨rfl, rfl⟩ := hst
        obtain ⟨rfl, rfl⟩ := hsr
        subst hk ha hb hnn hs
        obtain ⟨tp, tc, rfl⟩ := htt.form
        obtain ⟨rp, rc, rfl⟩ := hrt.form
        obtain ⟨p, c, rfl⟩ := ht.form
        exact ⟨.mk k sa sb nn (.mk kt tts) (.mk kr rts) ts, tp, tc, rp, rc, p, c, rfl, ⟨htt, hrt, ht⟩, (Tm.fit_eq _).2 ⟨za, zb, hfit⟩⟩
    · intro cs x h
      rcases DataW.trod_slice Try.underlying25 h with ⟨rfl, _⟩ | ⟨a, len, cap, elems, rest, n, hn, rfl, _, _, hl, hm, hlen, hel, _, _⟩
      · exact ⟨_, [], rfl, .nil _ _ _ _, trivial⟩
      · by_cases h0 : len = 0
        · subst h0
          exact ⟨_, [], rfl, .nil _ _ _ _, trivial⟩
        rw [cells_tm] at hel
        have each : ∀ i, i < len → ∃ z : Tm, (∃ (tp : Option Addr) (tc : Nat) (rp : Option Addr) (rc : Nat) (p : Option Addr) (c : Nat),
            (∀ j, j < 9 → w.cell? (a.add (i * 9 + j)) = (tmC z tp tc rp rc p c).toList[j]?) ∧ TM' w (fun _ => True) z tp tc rp rc p c) ∧ z.fit := by
          intro i hi
          have hb := hel i hi
          rw [List.getElem?_eq_getElem (by omega), Option.bind_eq_some_iff] at hb
          obtain ⟨cs', hcs, ht⟩ := hb
          obtain ⟨t, tp, tc, rp, rc, p, c, rfl, hT, hft⟩ := (IH n (by omega)).1 _ _ ht
          exact ⟨t, ⟨tp, tc, rp, rc, p, c, (cell_of_cells9 hcs).2, hT⟩, hft⟩
        haveI : Inhabited Tm := ⟨.mk 0 .empty .empty 0 (.mk 0 []) (.mk 0 []) []⟩
        obtain ⟨f, hf⟩ := Go.Deep.choose_lt (α := Tm) each
        have hspot : a.spot = none := by
          obtain ⟨⟨_, _, _, _, _, _, h9, _⟩, _⟩ := hf 0 (by omega)
          have := h9 0 (by omega)
          simp only [Nat.zero_mul, Nat.zero_add] at this
          simpa [Addr.add] using World.cell?_spot this
        obtain ⟨b, o, sp⟩ := a
        simp only at hspot
        subst hspot
        simp only [Go.WideShapes.add_plain] at hf
        have hb : b < w.heap.size := by
          obtain ⟨⟨_, _, _, _, _, _, h9, _⟩, _⟩ := hf 0 (by omega)
          exact World.block_lt_of_cell? w _ (h9 0 (by omega))
        let ts := (List.range len).map fun i => f i
        have hts : ts.length = len := by simp [ts]
        have at_ : ∀ j (hj : j < ts.length), ts[j] = f j := by
          intro j hj
          simp [ts]
        -- every cell of the row is there and holds what its term asks
        have cell : ∀ (i : Nat) (d : D), (flatTm ts)[i]? = some d → ∃ v, w.cell? ⟨b, o + i, none⟩ = some v ∧ DM w (fun _ => True) d v := by
          intro i d hd
          have hi : i < ts.length * 9 := by
            rw [← flatTm_len]
            exact (List.getElem?_eq_some_iff.1 hd).1
          obtain ⟨j, k, hj, hk, rfl⟩ : ∃ j k, j < ts.length ∧ k < 9 ∧ i = j * 9 + k := ⟨i / 9, i % 9, by omega, by omega, by omega⟩
          rw [flatTm_at ts j k hj hk, Tm.ds_eq, at_ j hj] at hd
          obtain ⟨⟨tp, tc, rp, rc, p, c, h9, hT⟩, _⟩ := hf j (by omega)
          have h := h9 k hk
          match k, hk with
          | 0, _ => cases hd; exact ⟨_, h, .cell _⟩
          | 1, _ => cases hd; exact ⟨_, h, .cell _⟩
          | 2, _ => cases hd; exact ⟨_, h, .cell _⟩
          | 3, _ => cases hd; exact ⟨_, h, .cell _⟩
          | 4, _ => cases hd; exact ⟨_, h, .cell _⟩
          | 5, _ => cases hd; exact ⟨_, h, hT.ty.dm⟩
          | 6, _ => cases hd; exact ⟨_, h, .cell _⟩
          | 7, _ => cases hd; exact ⟨_, h, hT.res.dm⟩
          | 8, _ => cases hd; exact ⟨_, h, hT.args⟩
          | n + 9, hk => omega
        have pick : ∀ i, i < ts.length * 9 → ∃ v : Value, w.cell? ⟨b, o + i, none⟩ = some v ∧ ∀ d, (flatTm ts)[i]? = some d → DM w (fun _ => True) d v := by
          intro i hi
          obtain ⟨v, h1, h2⟩ := cell i _ (List.getElem?_eq_getElem (by rw [flatTm_len]; exact hi))
          refine ⟨v, h1, fun d hd => ?_⟩
          rw [List.getElem?_eq_getElem (by rw [flatTm_len]; exact hi)] at hd
          exact (Option.some.inj hd) ▸ h2
        haveI : Inhabited Value := ⟨.int .i64 0⟩
        obtain ⟨V, hV⟩ := Go.Deep.choose_lt (α := Value) pick
        refine ⟨_, ts, rfl, ?_, fitS_of ts fun j hj => ?_⟩
        · have key := DM.rows (w := w) (C := fun _ => True) (T := 35) (k := 9) (n := ts.length) (b := b) (o := o) (c := cap) (ds := flatTm ts) V (by omega) (by omega) (by unfold maxLen at hm; omega) (flatTm_len ts) trivial hb
            (fun i d hd => (hV i (by rw [← flatTm_len]; exact (List.getElem?_eq_some_iff.1 hd).1)).1) (fun i d hd => (hV i (by rw [← flatTm_len]; exact (List.getElem?_eq_some_iff.1 hd).1)).2 d hd)
          rw [hts] at key
          show DM w _ (.rows _ 9 ts.length (flatTm ts)) _
          rw [hts]
          exact key
        · rw [at_ j hj]
          exact (hf j (by omega)).2
end

set_option maxRecDepth 100000 in
/-- THE ARGUMENT OPENED. -/
theorem open_term {H : Type} {enc : TypeId × Value → H} {W : World} {spare : Nat → Bool} {held : Bool} {r : Reach} {b0 : Nat} {v : Value} {d : DataW H} {p : List MemPlace}
    (hv : Value.okWide Try.prog W r b0 27 v) (h : DataW.Trod enc Try.prog W 0 spare held 27 v d p) : ∃ t : Tm, TM W (fun _ => True) t v ∧ t.fit := by
  obtain ⟨cs, rfl, hsz⟩ := okWide_struct Try.underlying27 hv
  obtain ⟨fuel, hf⟩ := h
  obtain ⟨t, tp, tc, rp, rc, p, c, hcs, ht, hfit⟩ := (open_tm fuel).1 _ _ hf
  have hcs' : cs = tmC t tp tc rp rc p c := by
    have : cs.toList = (tmC t tp tc rp rc p c).toList := hcs
    exact Array.toList_inj.1 this
  subst hcs'
  exact ⟨t, ⟨tp, tc, rp, rc, p, c, rfl, ht⟩, hfit⟩
end Go.Proofs.Ytdfnjfelmfccjaa

