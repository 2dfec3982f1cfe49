/-
  Contexts (slices of typings) in memory.
-/
import Derived.Test.YteoeefmdfalnjaaDatTy
namespace Go.Proofs.Yteoeefmdfalnjaa
open Go Go.RowKit

/-- A typing: a name, a type, a level. -/
structure Tg where
  nm : ByteArray
  ty : Ty
  lv : Int
def Tg.ds (x : Tg) : List D := [.cell (.string x.nm), .cell (.int .i64 x.ty.kind), tyD x.ty.args, .cell (.int .i64 x.lv)]
theorem Tg.ds_len (x : Tg) : x.ds.length = 4 := rfl
abbrev flatCx (L : List Tg) : List D := L.flatMap Tg.ds
abbrev cxD (L : List Tg) : D := .rows 43 4 L.length (flatCx L)
theorem flatCx_len (L : List Tg) : (flatCx L).length = L.length * 4 := flat_len _ 4 Tg.ds_len L
theorem flatCx_at (L : List Tg) (j i : Nat) (h : j < L.length) (hi : i < 4) : (flatCx L)[j * 4 + i]? = (L[j].ds)[i]? := by
  rw [flat_at Tg.ds 4 Tg.ds_len L j i hi, List.getElem?_eq_getElem h]; rfl
/-- A context: typings whose types are small. -/
structure CX (w : World) (C : Nat → Prop) (L : List Tg) (v : Value) : Prop where
  dm : DM w C (cxD L) v
  ty : ∀ x ∈ L, nodesS x.ty.args ≤ 100
  nm : ∀ x ∈ L, x.nm.size ≤ 100
theorem CX.stays {w w' : World} {C : Nat → Prop} {L : List Tg} {v : Value} (h : CX w C L v) (hs : Stays C w w') : CX w' C L v := ⟨h.dm.stays hs, h.ty, h.nm⟩
theorem CX.mono {w : World} {C C' : Nat → Prop} {L : List Tg} {v : Value} (h : CX w C L v) (hC : ∀ z, C z → z < w.heap.size → C' z) : CX w C' L v := ⟨h.dm.mono hC, h.ty, h.nm⟩
/-- The cells of a typing. -/
structure At4 (w : World) (b o : Nat) (x : Tg) (q : Option Addr) (c : Nat) : Prop where
  nm : w.cell? ⟨b, o, none⟩ = some (.string x.nm)
  kind : w.cell? ⟨b, o + 1, none⟩ = some (.int .i64 x.ty.kind)
  args : w.cell? ⟨b, o + 2, none⟩ = some (.slice q x.ty.args.length c)
  lv : w.cell? ⟨b, o + 3, none⟩ = some (.int .i64 x.lv)
theorem cx_part {w0 : World} {C : Nat → Prop} {L : List Tg} {q : Option Addr} {d : Nat} (h : DM w0 C (cxD L) (.slice q L.length d)) (j : Nat) (hj : j < L.length) :
    ∃ (b o : Nat) (p : Option Addr) (c : Nat), q = some ⟨b, o, none⟩ ∧ C b ∧ b < w0.heap.size ∧ (∀ w', Stays C w0 w' → At4 w' b (o + j * 4) L[j] p c) ∧ TS w0 C L[j].ty.args (.slice p L[j].ty.args.length c) := by
  obtain ⟨b, o, V, rfl, hC, hb, hp⟩ := h.part (by rw [flatCx_len]; omega)
  have part : ∀ (i : Nat) (d : D), i < 4 → (L[j].ds)[i]? = some d → DM w0 C d (V (j * 4 + i)) ∧ ∀ w', Stays C w0 w' → w'.cell? ⟨b, o + j * 4 + i, none⟩ = some (V (j * 4 + i)) := fun i d hi hd => by
    obtain ⟨h1, h2⟩ := hp (j * 4 + i) d (by rw [flatCx_at L j i hj hi]; exact hd)
    exact ⟨h1, fun w' hw => by rw [Nat.add_assoc]; exact h2 w' hw⟩
  obtain ⟨a0, b0⟩ := part 0 _ (by omega) rfl
  obtain ⟨a1, b1⟩ := part 1 _ (by omega) rfl
  obtain ⟨a2, b2⟩ := part 2 _ (by omega) rfl
  obtain ⟨a3, b3⟩ := part 3 _ (by omega) rfl
  rw [a0.val] at b0
  rw [a1.val] at b1
  rw [a3.val] at b3
  obtain ⟨p, c, e2⟩ := a2.form
  rw [e2] at a2 b2
  exact ⟨b, o, p, c, rfl, hC, hb, fun w' hw => ⟨b0 w' hw, b1 w' hw, b2 w' hw, b3 w' hw⟩, a2.ts _ (Nat.le_refl _)⟩
theorem CX.form {w : World} {C : Nat → Prop} {L : List Tg} {v : Value} (h : CX w C L v) : ∃ q c, v = .slice q L.length c := h.dm.form
theorem cx_nil (w : World) (C : Nat → Prop) (a : Option Addr) (c : Nat) : CX w C [] (.slice a 0 c) := ⟨.nil _ _ a c, by simp, by simp⟩
/-- The four values of a typing, its type held in C. -/
def TgV (w : World) (C : Nat → Prop) (x : Tg) (us : List Value) : Prop := ∃ (p : Option Addr) (c : Nat), us = [.string x.nm, .int .i64 x.ty.kind, .slice p x.ty.args.length c, .int .i64 x.lv] ∧ TS w C x.ty.args (.slice p x.ty.args.length c)
theorem TgV.stays {w w' : World} {C : Nat → Prop} {x : Tg} {us : List Value} (h : TgV w C x us) (hs : Stays C w w') : TgV w' C x us := by
  obtain ⟨p, c, h1, h2⟩ := h
  exact ⟨p, c, h1, h2.stays hs⟩
theorem TgV.mono {w : World} {C C' : Nat → Prop} {x : Tg} {us : List Value} (h : TgV w C x us) (hC : ∀ z, C z → z < w.heap.size → C' z) : TgV w C' x us := by
  obtain ⟨p, c, h1, h2⟩ := h
  exact ⟨p, c, h1, h2.mono hC⟩
/-- A row of the call's own of typings. -/
structure RowCx (w : World) (base : Nat) (C : Nat → Prop) (L : List Tg) (v : Value) (xs : List Value) : Prop where
  own : w.ownsRow base 43 4 v L.length xs
  cells : ∀ j x, L[j]? = some x → TgV w C x ((xs.drop (j * 4)).take 4)
theorem RowCx.start (w : World) (base : Nat) (C : Nat → Prop) : RowCx w base C [] (.slice none 0 0) [] := ⟨World.ownsRow_nil _ _ _ _, by simp⟩
theorem RowCx.keep {w w' : World} {base : Nat} {C : Nat → Prop} {L : List Tg} {v : Value} {xs : List Value} (h : RowCx w base C L v xs) (hs : Stays C w w') (hv : ∀ g, v.ownBlock = some g → w'.heap[g]? = w.heap[g]?) : RowCx w' base C L v xs := by
  refine ⟨⟨h.own.1, ?_⟩, fun j x hj => (h.cells j x hj).stays hs⟩
  rcases h.own.2 with h0 | ⟨g, cap, cur, rfl, hg, hblk, r⟩
  · exact Or.inl h0
  · exact Or.inr ⟨g, cap, cur, rfl, hg, (hv g rfl).trans hblk, r⟩
theorem RowCx.app {w w' : World} {base : Nat} {C : Nat → Prop} {L : List Tg} {v : Value} {xs us : List Value} {x : Tg} {g cap : Nat} (h : RowCx w base C L v xs) (hA : Appd w w' base 43 4 v L.length xs us g cap) (hx : TgV w C x us) (hC : ∀ z, C z → z < w.heap.size ∧ v.ownBlock ≠ some z) :
    RowCx w' base C (L ++ [x]) (.slice (some ⟨g, 0, none⟩) (L.length + 1) cap) (xs ++ us) ∧ (∀ z, C z → z < w'.heap.size ∧ (Value.slice (some ⟨g, 0, none⟩) (L.length + 1) cap).ownBlock ≠ some z) := by
  have hst : Stays C w w' := ⟨hA.size, fun z hz hl => (hA.kept z hl (hC z hz).2).1⟩
  have hlx : xs.length = L.length * 4 := h.own.1
  have hlu : us.length = 4 := by obtain ⟨p, c, rfl, _⟩ := hx; rfl
  refine ⟨⟨by rw [List.length_append, List.length_singleton]; exact hA.own, fun j y hj => ?_⟩, fun z hz => ⟨Nat.lt_of_lt_of_le (hC z hz).1 hA.size, fun e => ?_⟩⟩
  · by_cases hjl : j < L.length
    · rw [List.getElem?_append_left hjl] at hj
      have h1 := (h.cells j y hj).stays hst
      rw [List.drop_append_of_le_length (by omega), List.take_append_of_le_length (by rw [List.length_drop]; omega)]
      exact h1
    · have hje : j = L.length := by
        have := (List.getElem?_eq_some_iff.1 hj).1
        rw [List.length_append, List.length_singleton] at this
        omega
      subst hje
      rw [List.getElem?_concat_length] at hj
      cases hj
      have h1 := hx.stays hst
      rw [← hlx, List.drop_left, List.take_of_length_le (by omega)]
      exact h1
  · simp only [Value.ownBlock, Option.some.injEq] at e
    exact (hA.kept z (hC z hz).1 (hC z hz).2).2 e
theorem RowCx.dm {w : World} {base : Nat} {C C' : Nat → Prop} {L : List Tg} {v : Value} {xs : List Value} (h : RowCx w base C L v xs) (hC : ∀ z, C z → C' z) (hv : ∀ g, v.ownBlock = some g → C' g) : DM w C' (cxD L) v := by
  rcases h.own.2 with ⟨rfl, h0⟩ | ⟨g, cap, cur, rfl, hg, hblk, h1, h2, h3, h4⟩
  · obtain rfl := List.eq_nil_of_length_eq_zero h0
    exact .nil _ _ _ _
  · have hlx : xs.length = L.length * 4 := h.own.1
    by_cases h0 : L.length = 0
    · obtain rfl := List.eq_nil_of_length_eq_zero h0
      exact .nil _ _ _ _
    have hcell : ∀ i, i < L.length * 4 → w.cell? ⟨g, 0 + i, none⟩ = some (xs.getD i undef) := fun i hi => by
      rw [Nat.zero_add, h.own.cellAt i (by omega), List.getD_eq_getElem?_getD, List.getElem?_eq_getElem (by omega)]; rfl
    refine .rows (fun i => xs.getD i undef) (by omega) h1 (Nat.le_trans h2 (by decide)) (flatCx_len L) (hv g rfl) (Array.getElem?_eq_some_iff.1 hblk).1 (fun i d hi => hcell i (by rw [← flatCx_len]; exact (List.getElem?_eq_some_iff.1 hi).1)) (fun i d hi => ?_)
    have hlt : i < L.length * 4 := by rw [← flatCx_len]; exact (List.getElem?_eq_some_iff.1 hi).1
    have hj : i / 4 < L.length := by omega
    have hx := List.getElem?_eq_getElem hj
    have hd : (L[i / 4].ds)[i % 4]? = some d := by rw [← flatCx_at L (i / 4) (i % 4) hj (by omega), show i / 4 * 4 + i % 4 = i by omega]; exact hi
    obtain ⟨p, c, hus, hts⟩ := h.cells (i / 4) _ hx
    have hval : xs.getD i undef = [Value.string L[i / 4].nm, .int .i64 L[i / 4].ty.kind, .slice p L[i / 4].ty.args.length c, .int .i64 L[i / 4].lv].getD (i % 4) undef := by
      rw [← hus, List.getD_eq_getElem?_getD, List.getD_eq_getElem?_getD, List.getElem?_take, if_pos (by omega), List.getElem?_drop, show i / 4 * 4 + i % 4 = i by omega]
    rw [hval]
    have hm : i % 4 = 0 ∨ i % 4 = 1 ∨ i % 4 = 2 ∨ i % 4 = 3 := by omega
    rcases hm with hm | hm | hm | hm
    all_goals
      rw [hm] at hd ⊢
      simp only [Tg.ds, List.getElem?_cons_zero, List.getElem?_cons_succ, Option.some.injEq] at hd
      subst hd
    · exact .cell _
    · exact .cell _
    · exact (hts.mono (fun z hz _ => hC z hz)).dm
    · exact .cell _
end Go.Proofs.Yteoeefmdfalnjaa

