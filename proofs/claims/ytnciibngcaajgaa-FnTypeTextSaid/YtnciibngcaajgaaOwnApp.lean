/-
  A row of types of the call's own, each over rows of its own, to which one type more is appended.
-/
import Derived.Test.YtnciibngcaajgaaOwnT
import Derived.Test.YtnciibngcaajgaaRowN
namespace Go.Proofs.Ytnciibngcaajgaa
open Go Go.RowKit

theorem rflat_len (A B : Nat → Value) (n : Nat) : ((List.range n).flatMap fun j => [A j, B j]).length = n * 2 := by
  induction n with
  | zero => rfl
  | succ n ih => rw [List.range_succ, List.flatMap_append, List.length_append, ih]; simp; omega
theorem rflat_at (A B : Nat → Value) (n j : Nat) (h : j < n) : ((List.range n).flatMap fun j => [A j, B j])[j * 2]? = some (A j) ∧ ((List.range n).flatMap fun j => [A j, B j])[j * 2 + 1]? = some (B j) := by
  induction n with
  | zero => omega
  | succ n ih =>
    rw [List.range_succ, List.flatMap_append]
    have hl := rflat_len A B n
    by_cases e : j = n
    · subst e
      rw [List.getElem?_append_right (by omega), List.getElem?_append_right (by omega), hl]
      rw [show j * 2 - j * 2 = 0 by omega, show j * 2 + 1 - j * 2 = 1 by omega]
      simp
    · obtain ⟨h1, h2⟩ := ih (by omega)
      rw [List.getElem?_append_left (by omega), List.getElem?_append_left (by omega)]
      exact ⟨h1, h2⟩

/-- Its blocks lie in the heap. -/
theorem os_inHeap {w : World} {F : Nat → Prop} {ts : List Ty} {v : Value} (h : OS w ts v F) : OS w ts v (fun z => F z ∧ z < w.heap.size) := by
  induction h with
  | none F => exact .none _
  | @row ts b c F K S G hrow hm hF hk hr hG hd ih =>
    exact .row K S (fun j z => G j z ∧ z < w.heap.size) hrow hm ⟨hF, hrow.lt⟩ hk ih (fun j z hj hz => ⟨⟨(hG j z hj hz.1).1, hz.2⟩, (hG j z hj hz.1).2⟩) (fun i j z hi hj hij h1 h2 => hd i j z hi hj hij h1.1 h2.1)
/-- ONE TYPE MORE: the row it is appended to is the call's own; afterwards all lies in blocks from base on, each apart. -/
theorem os_grow {w : World} {base : Nat} {ts : List Ty} {v : Value} {F1 F2 : Nat → Prop} {x : Ty} {s : Value} (h : OS w ts v F1) (hx : OS w x.args s F2)
    (h1 : ∀ z, F1 z → base ≤ z ∧ ¬ F2 z) (h2 : ∀ z, F2 z → base ≤ z ∧ z < w.heap.size) :
    ∃ xs, w.ownsRow base 26 2 v ts.length xs ∧ ∀ (w' : World) (g cap : Nat), Appd w w' base 26 2 v ts.length xs [.int .i64 x.kind, s] g cap →
      OS w' (ts ++ [x]) (.slice (some ⟨g, 0, none⟩) (ts.length + 1) cap) (fun z => base ≤ z ∧ z < w'.heap.size) := by
  cases h with
  | none =>
    refine ⟨[], World.ownsRow_nil w base _ 2, fun w' g cap hA => ?_⟩
    obtain ⟨hrow, hb, hc⟩ := Row.of_owns (K := fun _ => x.kind) (S := fun _ => s) hA.own (fun j hj => by
      obtain rfl : j = 0 := by have : j < 0 + 1 := hj; omega
      exact ⟨rfl, rfl⟩)
    have hlt := hrow.lt
    have hs : Stays F2 w w' := ⟨hA.size, fun b hb hl => (hA.kept b hl (by simp [Value.ownBlock])).1⟩
    refine OS.row (ts := [x]) (fun _ => x.kind) (fun _ => s) (fun _ => F2) hrow hc ⟨hb, hlt⟩ (fun j y hj => ?_) (fun j y hj => ?_) (fun j z hj hz => ?_) (fun i j z hi hj hij => ?_)
    · match j, hj with
      | 0, hj => cases hj; rfl
    · match j, hj with
      | 0, hj => cases hj; exact hx.stays hs
    · obtain ⟨e1, e2⟩ := h2 z hz
      have := hA.size
      exact ⟨⟨e1, by omega⟩, fun e => (hA.kept z e2 (by simp [Value.ownBlock])).2 e.symm⟩
    · have hi' : i < 1 := hi
      have hj' : j < 1 := hj
      omega
  | @row ts b c F K S G hrow hm hF hk hr hG hd =>
    have hbase := (h1 b hF).1
    refine ⟨_, hrow.to_owns base hbase hm, fun w' g cap hA => ?_⟩
    have hl := rflat_len (fun j => .int .i64 (K j)) S ts.length
    have hF2b : ∀ z, F2 z → z ≠ b := fun z hz e => (h1 b hF).2 (e ▸ hz)
    have ob : ∀ z, z ≠ b → (Value.slice (some ⟨b, 0, Option.none⟩) ts.length c).ownBlock ≠ some z := fun z hz => by simp only [Value.ownBlock, ne_eq, Option.some.injEq]; omega
    obtain ⟨hrow', hb', hc'⟩ := Row.of_owns (K := fun j => if j < ts.length then K j else x.kind) (S := fun j => if j < ts.length then S j else s) hA.own (fun j hj => by
      by_cases e : j < ts.length
      · obtain ⟨e1, e2⟩ := rflat_at (fun j => .int .i64 (K j)) S ts.length j e
        rw [List.getElem?_append_left (by omega), List.getElem?_append_left (by omega), if_pos e, if_pos e]
        exact ⟨e1, e2⟩
      · obtain rfl : j = ts.length := by omega
        rw [List.getElem?_append_right (by omega), List.getElem?_append_right (by omega), hl, if_neg e, if_neg e]
        rw [show ts.length * 2 - ts.length * 2 = 0 by omega, show ts.length * 2 + 1 - ts.length * 2 = 1 by omega]
        exact ⟨rfl, rfl⟩)
    have hlt := hrow'.lt
    have hlen : (ts ++ [x]).length = ts.length + 1 := by simp
    have gl : ∀ j z, j < ts.length → G j z → base ≤ z ∧ z ≠ b := fun j z hj hz => ⟨(h1 z (hG j z hj hz).1).1, (hG j z hj hz).2⟩
    have key := OS.row (w := w') (ts := ts ++ [x]) (b := g) (c := cap) (F := fun z => base ≤ z ∧ z < w'.heap.size) (fun j => if j < ts.length then K j else x.kind) (fun j => if j < ts.length then S j else s)
      (fun j z => if j < ts.length then G j z ∧ z < w.heap.size else F2 z) (by rw [hlen]; exact hrow') hc' ⟨hb', hlt⟩ (fun j y hj => ?_) (fun j y hj => ?_) (fun j z hj hz => ?_) (fun i j z hi hj hij hz1 hz2 => ?_)
    · rw [hlen] at key; exact key
    · by_cases e : j < ts.length
      · rw [List.getElem?_append_left e] at hj
        simp only [if_pos e]
        exact hk j y hj
      · rw [List.getElem?_append_right (by omega)] at hj
        have : j - ts.length = 0 := by have := (List.getElem?_eq_some_iff.1 hj).1; simp at this; omega
        rw [this] at hj
        cases hj
        simp only [if_neg e]
    · by_cases e : j < ts.length
      · rw [List.getElem?_append_left e] at hj
        simp only [if_pos e]
        have h3 := (hr j y hj)
        have : OS w y.args (S j) (fun z => G j z ∧ z < w.heap.size) := os_inHeap h3
        exact this.stays ⟨hA.size, fun z hz hl => (hA.kept z hl (ob z (gl j z e hz.1).2)).1⟩
      · rw [List.getElem?_append_right (by omega)] at hj
        have : j - ts.length = 0 := by have := (List.getElem?_eq_some_iff.1 hj).1; simp at this; omega
        rw [this] at hj
        cases hj
        simp only [if_neg e]
        exact hx.stays ⟨hA.size, fun z hz hl => (hA.kept z hl (ob z (hF2b z hz))).1⟩
    · have hs := hA.size
      by_cases e : j < ts.length
      · simp only [if_pos e] at hz
        obtain ⟨e1, e2⟩ := gl j z e hz.1
        exact ⟨⟨e1, by omega⟩, fun e => (hA.kept z hz.2 (ob z e2)).2 e.symm⟩
      · simp only [if_neg e] at hz
        obtain ⟨e1, e2⟩ := h2 z hz
        exact ⟨⟨e1, by omega⟩, fun e => (hA.kept z e2 (ob z (hF2b z hz))).2 e.symm⟩
    · rw [hlen] at hi hj
      by_cases ei : i < ts.length
      · simp only [if_pos ei] at hz1
        by_cases ej : j < ts.length
        · simp only [if_pos ej] at hz2
          exact hd i j z ei ej hij hz1.1 hz2.1
        · simp only [if_neg ej] at hz2
          exact (h1 z (hG i z ei hz1.1).1).2 hz2
      · simp only [if_neg ei] at hz1
        by_cases ej : j < ts.length
        · simp only [if_pos ej] at hz2
          exact (h1 z (hG j z ej hz2.1).1).2 hz1
        · omega
end Go.Proofs.Ytnciibngcaajgaa

