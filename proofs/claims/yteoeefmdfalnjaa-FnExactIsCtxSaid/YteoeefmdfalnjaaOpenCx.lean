/-
  An argument that is a context, opened: the typings that it reads as.
-/
import Derived.Test.YteoeefmdfalnjaaOpenT
import Derived.Test.YteoeefmdfalnjaaCxA
namespace Go.Proofs.Yteoeefmdfalnjaa
open Go Go.ChangeShapes Go.WideShapes Go.RowKit

theorem cells_tg : Try.prog.cellsOf 37 = 4 := by kernel_rfl

section
variable {H : Type} {enc : TypeId × Value → H} {w : World} {spare : Nat → Bool} {held : Bool}

theorem cell_of_cells4 {a : Addr} {cs : List Value} {base i : Nat} (h : w.cells? base (a.add (i * 4)) 4 = some cs) : cs.length = 4 ∧ ∀ j, j < 4 → w.cell? (a.add (i * 4 + j)) = cs[j]? := by
  unfold World.cells? at h
  split at h
  · have e : (List.range 4) = [0, 1, 2, 3] := rfl
    rw [e] at h
    simp only [List.mapM_cons, List.mapM_nil, Option.bind_eq_bind, Option.bind_eq_some_iff, Option.pure_def, Option.some.injEq] at h
    obtain ⟨v0, h0, _, ⟨v1, h1, _, ⟨v2, h2, _, ⟨v3, h3, _, rfl, rfl⟩, rfl⟩, rfl⟩, rfl⟩ := h
    rw [Go.Deep.add_add] at h0 h1 h2 h3
    refine ⟨rfl, fun j hj => ?_⟩
    match j, hj with
    | 0, _ => exact h0
    | 1, _ => exact h1
    | 2, _ => exact h2
    | 3, _ => exact h3
    | n + 4, hj => omega
  · cases h

set_option maxRecDepth 100000 in
set_option maxHeartbeats 2000000 in
/-- What a typing's four cells read as. -/
theorem open_tg (fuel : Nat) (cs : List Value) (x : DataW H × List MemPlace) (h : DataW.trod enc Try.prog w 0 spare held fuel 37 cs = some x) : ∃ (t : Tg) (p : Option Addr) (c : Nat),
    cs = (tgC t p c).toList ∧ TS w (fun _ => True) t.ty.args (.slice p t.ty.args.length c) ∧ t.nm.size ≤ 9223372036854775807 := by
  obtain ⟨xs, n, hn, _, hl, hlen, hf⟩ := DataW.trod_struct Try.underlying37 h
  rw [cells_tg] at hl
  have g0 : DataW.trod enc Try.prog w 0 spare held n 9 ((cs.drop 0).take (Try.prog.cellsOf 9)) = xs[0]? := hf 0 _ rfl
  have g1 : DataW.trod enc Try.prog w 0 spare held n 35 ((cs.drop 1).take (Try.prog.cellsOf 35)) = xs[1]? := hf 1 _ rfl
  have g2 : DataW.trod enc Try.prog w 0 spare held n 3 ((cs.drop 3).take (Try.prog.cellsOf 3)) = xs[2]? := hf 2 _ rfl
  rw [cells_str] at g0
  rw [cells_ty] at g1
  rw [cells_int] at g2
  match cs, hl, xs, hlen with
  | [c0, c1, c2, c3], _, [y0, y1, y2], _ =>
    obtain ⟨sa, ha, _, za⟩ := DataW.trod_string Try.underlying9 g0
    obtain ⟨kt, st, tts, hst, htt⟩ := (open_ty n).1 _ _ g1
    obtain ⟨k, hk, _, _⟩ := DataW.trod_int Try.underlying3 g2
    simp only [List.drop_zero, List.drop_succ_cons, List.take_succ_cons, List.take_zero, List.cons.injEq, and_true] at hk ha hst
    obtain ⟨rfl, rfl⟩ := hst
    subst hk ha
    obtain ⟨p, c, rfl⟩ := htt.form
    exact ⟨⟨sa, .mk kt tts, k⟩, p, c, rfl, htt, za⟩
set_option maxRecDepth 100000 in
set_option maxHeartbeats 2000000 in
/-- What a slice of typings reads as. -/
theorem open_cx (fuel : Nat) (cs : List Value) (x : DataW H × List MemPlace) (h : DataW.trod enc Try.prog w 0 spare held fuel 22 cs = some x) : ∃ (s : Value) (L : List Tg), cs = [s] ∧ DM w (fun _ => True) (cxD L) s ∧ fitC L := by
  rcases DataW.trod_slice Try.underlying22 h with ⟨rfl, _⟩ | ⟨a, len, cap, elems, rest, n, hn, rfl, _, _, hl, hm, hlen, hel, _, _⟩
  · exact ⟨_, [], rfl, .nil _ _ _ _, fun x hx => by cases hx⟩
  · by_cases h0 : len = 0
    · subst h0
      exact ⟨_, [], rfl, .nil _ _ _ _, fun x hx => by cases hx⟩
    rw [cells_tg] at hel
    have each : ∀ i, i < len → ∃ z : Tg, (∃ (p : Option Addr) (c : Nat), (∀ j, j < 4 → w.cell? (a.add (i * 4 + j)) = (tgC z p c).toList[j]?) ∧ TS w (fun _ => True) z.ty.args (.slice p z.ty.args.length c)) ∧ z.nm.size ≤ 9223372036854775807 := by
      intro i hi
      have hb := hel i hi
      rw [List.getElem?_eq_getElem (by omega), Option.bind_eq_some_iff] at hb
      obtain ⟨cs', hcs, ht⟩ := hb
      obtain ⟨t, p, c, rfl, hT, hft⟩ := open_tg n _ _ ht
      exact ⟨t, ⟨p, c, (cell_of_cells4 hcs).2, hT⟩, hft⟩
    haveI : Inhabited Tg := ⟨⟨.empty, .mk 0 [], 0⟩⟩
    obtain ⟨f, hf⟩ := Go.Deep.choose_lt (α := Tg) each
    have hspot : a.spot = none := by
      obtain ⟨⟨_, _, h9, _⟩, _⟩ := hf 0 (by omega)
      have := h9 0 (by omega)
      simp only [Nat.zero_mul, Nat.zero_add] at this
      simpa [Addr.add] using World.cell?_spot this
    obtain ⟨b, o, sp⟩ := a
    simp only at hspot
    subst hspot
    simp only [Go.WideShapes.add_plain] at hf
    have hb : b < w.heap.size := by
      obtain ⟨⟨_, _, h9, _⟩, _⟩ := hf 0 (by omega)
      exact World.block_lt_of_cell? w _ (h9 0 (by omega))
    let L := (List.range len).map fun i => f i
    have hts : L.length = len := by simp [L]
    have at_ : ∀ j (hj : j < L.length), L[j] = f j := by
      intro j hj
      simp [L]
    have cell : ∀ (i : Nat) (d : D), (flatCx L)[i]? = some d → ∃ v, w.cell? ⟨b, o + i, none⟩ = some v ∧ DM w (fun _ => True) d v := by
      intro i d hd
      have hi : i < L.length * 4 := by
        rw [← flatCx_len]
        exact (List.getElem?_eq_some_iff.1 hd).1
      obtain ⟨j, k, hj, hk, rfl⟩ : ∃ j k, j < L.length ∧ k < 4 ∧ i = j * 4 + k := ⟨i / 4, i % 4, by omega, by omega, by omega⟩
      rw [flatCx_at L j k hj hk, at_ j hj] at hd
      unfold Tg.ds at hd
      obtain ⟨⟨p, c, h9, hT⟩, _⟩ := hf j (by omega)
      have h := h9 k hk
      match k, hk with
      | 0, _ => cases hd; exact ⟨_, h, .cell _⟩
      | 1, _ => cases hd; exact ⟨_, h, .cell _⟩
      | 2, _ => cases hd; exact ⟨_, h, hT.dm⟩
      | 3, _ => cases hd; exact ⟨_, h, .cell _⟩
      | n + 4, hk => omega
    have pick : ∀ i, i < L.length * 4 → ∃ v : Value, w.cell? ⟨b, o + i, none⟩ = some v ∧ ∀ d, (flatCx L)[i]? = some d → DM w (fun _ => True) d v := by
      intro i hi
      obtain ⟨v, h1, h2⟩ := cell i _ (List.getElem?_eq_getElem (by rw [flatCx_len]; exact hi))
      refine ⟨v, h1, fun d hd => ?_⟩
      rw [List.getElem?_eq_getElem (by rw [flatCx_len]; exact hi)] at hd
      exact (Option.some.inj hd) ▸ h2
    haveI : Inhabited Value := ⟨.int .i64 0⟩
    obtain ⟨V, hV⟩ := Go.Deep.choose_lt (α := Value) pick
    refine ⟨_, L, rfl, ?_, fun x hx => ?_⟩
    · have key := DM.rows (w := w) (C := fun _ => True) (T := 43) (k := 4) (n := L.length) (b := b) (o := o) (c := cap) (ds := flatCx L) V (by omega) (by omega) (by unfold maxLen at hm; omega) (flatCx_len L) trivial hb
        (fun i d hd => (hV i (by rw [← flatCx_len]; exact (List.getElem?_eq_some_iff.1 hd).1)).1) (fun i d hd => (hV i (by rw [← flatCx_len]; exact (List.getElem?_eq_some_iff.1 hd).1)).2 d hd)
      rw [hts] at key
      show DM w _ (.rows _ 4 L.length (flatCx L)) _
      rw [hts]
      exact key
    · obtain ⟨j, hj, rfl⟩ := List.getElem_of_mem hx
      rw [at_ j hj]
      exact (hf j (by omega)).2
end

/-- THE ARGUMENT OPENED. -/
theorem open_ctx {H : Type} {enc : TypeId × Value → H} {W : World} {spare : Nat → Bool} {held : Bool} {a : Option Addr} {len cap : Nat} {d : DataW H} {p : List MemPlace}
    (h : DataW.Trod enc Try.prog W 0 spare held 22 (.slice a len cap) d p) : ∃ L : List Tg, DM W (fun _ => True) (cxD L) (.slice a len cap) ∧ fitC L := by
  obtain ⟨fuel, hf⟩ := h
  obtain ⟨s, L, hcs, ht, hfit⟩ := open_cx fuel _ _ hf
  have hcs' : s = .slice a len cap := by
    have h0 : (Value.slice a len cap).cells = #[.slice a len cap] := rfl
    rw [h0] at hcs
    simpa using hcs.symm
  subst hcs'
  exact ⟨L, ht, hfit⟩
end Go.Proofs.Yteoeefmdfalnjaa

