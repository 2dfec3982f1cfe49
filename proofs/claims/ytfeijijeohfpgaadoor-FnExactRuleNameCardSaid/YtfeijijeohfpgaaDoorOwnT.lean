/-
  Types in memory that the call made itself: a row of types of its own, a tree of such rows whose blocks are apart.
-/
import Derived.Test.YtfeijijeohfpgaaDoorProg
import Derived.Test.YtfeijijeohfpgaaDoorTy
import Derived.WalkSmall
import Derived.Laws.OwnMore
namespace Go.Proofs.YtfeijijeohfpgaaDoor
open Go Go.RowKit

theorem infoTy : (Tryd.prog.info? 32).map (fun i => (i.zero, i.size, i.bytes)) = some (some (.agg #[.int .i64 0, .slice none 0 0]), 2, 32) := by kernel_rfl

/-- Block b is a row of c types of the call's own, of which the first n hold the kinds K and the slices S. -/
def Row (w : World) (b n c : Nat) (K : Nat → Int) (S : Nat → Value) : Prop :=
  ∃ cur : Array Value, w.heap[b]? = some (.cells cur 32 (0, 0)) ∧ cur.size = c * 2 ∧ n ≤ c ∧ ∀ j, j < n → cur[j * 2]? = some (.int .i64 (K j)) ∧ cur[j * 2 + 1]? = some (S j)

namespace Row
variable {w : World} {b n c : Nat} {K : Nat → Int} {S : Nat → Value}
theorem kind (h : Row w b n c K S) {j : Nat} (hj : j < n) : w.cell? ⟨b, j * 2, none⟩ = some (.int .i64 (K j)) := by
  obtain ⟨cur, hb, _, _, hc⟩ := h
  simp [World.cell?, hb, (hc j hj).1]
theorem args (h : Row w b n c K S) {j : Nat} (hj : j < n) : w.cell? ⟨b, j * 2 + 1, none⟩ = some (S j) := by
  obtain ⟨cur, hb, _, _, hc⟩ := h
  simp [World.cell?, hb, (hc j hj).2]
theorem frozen (h : Row w b n c K S) (i : Nat) : w.frozen? ⟨b, i, none⟩ = false := by
  obtain ⟨cur, hb, _, _, _⟩ := h
  simp [World.frozen?, hb]
theorem lt (h : Row w b n c K S) : b < w.heap.size := by
  obtain ⟨cur, hb, _, _, _⟩ := h
  exact (Array.getElem?_eq_some_iff.1 hb).1
theorem of_block {w' : World} (h : Row w b n c K S) (e : w'.heap[b]? = w.heap[b]?) : Row w' b n c K S := by
  obtain ⟨cur, hb, h1, h2, h3⟩ := h
  exact ⟨cur, e.trans hb, h1, h2, h3⟩
theorem below {w' : World} (h : Row w b n c K S) (hb : Below w.heap.size w w') : Row w' b n c K S := h.of_block (hb.block b h.lt)
theorem congr {K' : Nat → Int} {S' : Nat → Value} (h : Row w b n c K S) (e1 : ∀ j, j < n → K j = K' j) (e2 : ∀ j, j < n → S j = S' j) : Row w b n c K' S' := by
  obtain ⟨cur, hb, h1, h2, h3⟩ := h
  exact ⟨cur, hb, h1, h2, fun j hj => by rw [← e1 j hj, ← e2 j hj]; exact h3 j hj⟩
theorem setKind (h : Row w b n c K S) (k : Nat) (q : Int) : Row (w.setCell ⟨b, k * 2, none⟩ (.int .i64 q)) b n c (fun j => if j = k then q else K j) S := by
  obtain ⟨cur, hb, h1, h2, h3⟩ := h
  refine ⟨cur.setIfInBounds (k * 2) (.int .i64 q), ?_, by simpa using h1, h2, fun j hj => ?_⟩
  · simp [World.setCell, Array.getElem?_modify, hb]
  · rw [Array.getElem?_setIfInBounds, Array.getElem?_setIfInBounds]
    obtain ⟨e1, e2⟩ := h3 j hj
    constructor
    · by_cases e : j = k
      · subst e
        have : j * 2 < cur.size := by omega
        simp [this]
      · dsimp only; rw [if_neg (by omega), if_neg e]; exact e1
    · rw [if_neg (by omega)]; exact e2
theorem setArgs (h : Row w b n c K S) (k : Nat) (s : Value) : Row (w.setCell ⟨b, k * 2 + 1, none⟩ s) b n c K (fun j => if j = k then s else S j) := by
  obtain ⟨cur, hb, h1, h2, h3⟩ := h
  refine ⟨cur.setIfInBounds (k * 2 + 1) s, ?_, by simpa using h1, h2, fun j hj => ?_⟩
  · simp [World.setCell, Array.getElem?_modify, hb]
  · rw [Array.getElem?_setIfInBounds, Array.getElem?_setIfInBounds]
    obtain ⟨e1, e2⟩ := h3 j hj
    constructor
    · rw [if_neg (by omega)]; exact e1
    · by_cases e : j = k
      · subst e
        have : j * 2 + 1 < cur.size := by omega
        simp [this]
      · dsimp only; rw [if_neg (by omega), if_neg e]; exact e2
theorem of_owns {base g cap : Nat} {xs : List Value} (h : w.ownsRow base 32 2 (.slice (some ⟨g, 0, none⟩) n cap) n xs) (hx : ∀ j, j < n → xs[j * 2]? = some (.int .i64 (K j)) ∧ xs[j * 2 + 1]? = some (S j)) :
    Row w g n cap K S ∧ base ≤ g ∧ cap ≤ maxLen := by
  obtain ⟨_, h0 | ⟨g', cap', cur, hv, hg, hblk, h1, h2, h3, h4⟩⟩ := h
  · exact absurd h0.1 (by simp)
  · simp only [Value.slice.injEq, Option.some.injEq, Addr.mk.injEq, true_and, and_true] at hv
    obtain ⟨rfl, rfl⟩ := hv
    refine ⟨⟨cur, hblk, h3, h1, fun j hj => ?_⟩, hg, h2⟩
    obtain ⟨e1, e2⟩ := hx j hj
    rw [← h4, List.getElem?_take, if_pos (by omega), Array.getElem?_toList] at e1 e2
    exact ⟨e1, e2⟩
theorem to_owns (h : Row w b n c K S) (base : Nat) (hb : base ≤ b) (hc : c ≤ maxLen) :
    w.ownsRow base 32 2 (.slice (some ⟨b, 0, none⟩) n c) n ((List.range n).flatMap fun j => [.int .i64 (K j), S j]) := by
  obtain ⟨cur, hblk, h1, h2, h3⟩ := h
  have hl : ∀ m, ((List.range m).flatMap fun j => [Value.int .i64 (K j), S j]).length = m * 2 := by
    intro m
    induction m with
    | zero => rfl
    | succ m ih => rw [List.range_succ, List.flatMap_append, List.length_append, ih]; simp; omega
  refine ⟨hl n, Or.inr ⟨b, c, cur, rfl, hb, hblk, h2, hc, h1, ?_⟩⟩
  have key : ∀ m, m ≤ n → cur.toList.take (m * 2) = (List.range m).flatMap fun j => [Value.int .i64 (K j), S j] := by
    intro m
    induction m with
    | zero => intro _; simp
    | succ m ih =>
      intro hm
      obtain ⟨e1, e2⟩ := h3 m (by omega)
      rw [List.range_succ, List.flatMap_append, ← ih (by omega), show (m + 1) * 2 = m * 2 + 1 + 1 by omega, List.take_add_one, List.take_add_one, Array.getElem?_toList, Array.getElem?_toList, e1, e2]
      simp
  exact key n (Nat.le_refl _)
end Row

/-- A tree of rows of the call's own; F: the blocks, which are apart. -/
inductive OS (w : World) : List Ty → Value → (Nat → Prop) → Prop
  | none (F : Nat → Prop) : OS w [] (.slice none 0 0) F
  | row {ts : List Ty} {b c : Nat} {F : Nat → Prop} (K : Nat → Int) (S : Nat → Value) (G : Nat → Nat → Prop) (hrow : Row w b ts.length c K S) (hm : c ≤ maxLen) (hF : F b)
      (hk : ∀ j x, ts[j]? = some x → K j = x.kind) (hr : ∀ j x, ts[j]? = some x → OS w x.args (S j) (G j))
      (hG : ∀ j x, j < ts.length → G j x → F x ∧ x ≠ b) (hd : ∀ i j x, i < ts.length → j < ts.length → i ≠ j → G i x → G j x → False) : OS w ts (.slice (some ⟨b, 0, Option.none⟩) ts.length c) F

theorem OS.stays {w w' : World} {F : Nat → Prop} {ts : List Ty} {v : Value} (h : OS w ts v F) : Stays F w w' → OS w' ts v F := by
  induction h with
  | none F => intro _; exact .none F
  | row K S G hrow hm hF hk hr hG hd ih =>
    intro hs
    refine .row K S G (hrow.of_block (hs.2 _ hF hrow.lt)) hm hF hk (fun j x hj => ih j x hj ⟨hs.1, fun b hb hl => hs.2 b (hG j b (List.getElem?_eq_some_iff.1 hj).1 hb).1 hl⟩) hG hd
theorem OS.keep {w w' : World} {F : Nat → Prop} {ts : List Ty} {v : Value} (h : OS w ts v F) (hb : Below w.heap.size w w') : OS w' ts v F := h.stays (.of_below hb)
theorem OS.mono {w : World} {F F' : Nat → Prop} {ts : List Ty} {v : Value} (h : OS w ts v F) (hF' : ∀ b, F b → F' b) : OS w ts v F' := by
  cases h with
  | none F => exact .none F'
  | row K S G hrow hm hF hk hr hG hd => exact .row K S G hrow hm (hF' _ hF) hk hr (fun j x hj hx => ⟨hF' _ (hG j x hj hx).1, (hG j x hj hx).2⟩) hd
theorem OS.ts {w : World} {F : Nat → Prop} {ts : List Ty} {v : Value} (h : OS w ts v F) : TS w F ts v := by
  induction h with
  | none F => exact .nil _ _
  | @row ts b c F K S G hrow hm hF hk hr hG hd ih =>
    cases ts with
    | nil => exact .nil _ _
    | cons x r =>
      refine .cons S (by simp) hrow.choose_spec.2.2.1 (by unfold maxLen at hm; omega) hF hrow.lt (fun j y hj => ?_) (fun j y hj => ?_) (fun j y hj => ?_)
      · have hlt := (List.getElem?_eq_some_iff.1 hj).1
        rw [Nat.zero_add, hrow.kind hlt, hk j y hj]
      · have hlt := (List.getElem?_eq_some_iff.1 hj).1
        rw [Nat.zero_add, hrow.args hlt]
      · have hlt := (List.getElem?_eq_some_iff.1 hj).1
        exact (ih j y hj).mono (fun b hb _ => (hG j b hlt hb).1)
/-- A struct value that is a type whose rows are the call's own. -/
def OT (w : World) (t : Ty) (v : Value) (F : Nat → Prop) : Prop := ∃ s, v = .agg #[.int .i64 t.kind, s] ∧ OS w t.args s F
theorem OT.tt {w : World} {F : Nat → Prop} {t : Ty} {v : Value} (h : OT w t v F) : TT w F t v := by
  obtain ⟨s, hv, h⟩ := h
  exact ⟨s, hv, h.ts⟩
theorem OT.keep {w w' : World} {F : Nat → Prop} {t : Ty} {v : Value} (h : OT w t v F) (hb : Below w.heap.size w w') : OT w' t v F := by
  obtain ⟨s, hv, h⟩ := h
  exact ⟨s, hv, h.keep hb⟩
theorem OS.form {w : World} {F : Nat → Prop} {ts : List Ty} {v : Value} (h : OS w ts v F) : ∃ a c, v = .slice a ts.length c := h.ts.form

/-- A row that is being filled, place by place: k of ts are there. -/
def Fill (w : World) (b n c : Nat) (ts : List Ty) (k : Nat) : Prop :=
  ∃ (K : Nat → Int) (S : Nat → Value) (G : Nat → Nat → Prop), Row w b n c K S ∧ (∀ j x, j < k → ts[j]? = some x → K j = x.kind ∧ OS w x.args (S j) (G j)) ∧
    (∀ j x, j < k → G j x → b < x ∧ x < w.heap.size) ∧ (∀ i j x, i < k → j < k → i ≠ j → G i x → G j x → False)
theorem Fill.lt {w : World} {b n c k : Nat} {ts : List Ty} (h : Fill w b n c ts k) : b < w.heap.size := by
  obtain ⟨K, S, G, h, _⟩ := h
  exact h.lt
theorem Fill.start {w : World} {b n c : Nat} {K : Nat → Int} {S : Nat → Value} {ts : List Ty} (h : Row w b n c K S) : Fill w b n c ts 0 :=
  ⟨K, S, fun _ _ => False, h, fun j x hj => by omega, fun j x hj => by omega, fun i j x hi => by omega⟩
theorem setCell_stays (w : World) (b : Nat) (i : Nat) (v : Value) (F : Nat → Prop) (h : ¬ F b) : Stays F w (w.setCell ⟨b, i, none⟩ v) :=
  ⟨((Below.refl b w).setCell (p := ⟨b, i, none⟩) (Nat.le_refl _) v).size, fun k hk _ => Below.heap_setCell _ _ _ _ (fun e => h (by rw [← (show k = b from e)]; exact hk))⟩
/-- The k-th place is filled with a type that was made behind. -/
theorem Fill.next {w w1 : World} {b n c k : Nat} {ts : List Ty} (h : Fill w b n c ts k) (hb : Below w.heap.size w w1) {x : Ty} (hx : ts[k]? = some x) {s : Value}
    (ho : OS w1 x.args s (fun g => w.heap.size ≤ g ∧ g < w1.heap.size)) (hkn : k < n) :
    Fill ((w1.setCell ⟨b, k * 2, none⟩ (.int .i64 x.kind)).setCell ⟨b, k * 2 + 1, none⟩ s) b n c ts (k + 1) := by
  obtain ⟨K, S, G, hrow, ht, hg, hd⟩ := h
  have hlt := hrow.lt
  have e0 : ((w1.setCell ⟨b, k * 2, none⟩ (.int .i64 x.kind)).setCell ⟨b, k * 2 + 1, none⟩ s).heap.size = w1.heap.size := by
    simp [World.setCell]
  have stay : ∀ F : Nat → Prop, ¬ F b → Stays F w1 ((w1.setCell ⟨b, k * 2, none⟩ (.int .i64 x.kind)).setCell ⟨b, k * 2 + 1, none⟩ s) := fun F hF => (setCell_stays _ _ _ _ F hF).trans (setCell_stays _ _ _ _ F hF)
  refine ⟨fun j => if j = k then x.kind else K j, fun j => if j = k then s else S j, fun j => if j = k then (fun g => w.heap.size ≤ g ∧ g < w1.heap.size) else G j, ((hrow.below hb).setKind k _).setArgs k s, fun j y hj hy => ?_, fun j y hj hy => ?_, fun i j y hi hj hij h1 h2 => ?_⟩
  · by_cases e : j = k
    · subst e
      rw [hx] at hy; cases hy
      simp only [if_true, true_and]
      exact ho.stays (stay _ (by simp; omega))
    · simp only [if_neg e]
      obtain ⟨e1, e2⟩ := ht j y (by omega) hy
      exact ⟨e1, (e2.keep hb).stays (stay _ (fun hh => by have := hg j b (by omega) hh; omega))⟩
  · rw [e0]
    by_cases e : j = k
    · subst e
      simp only [if_true] at hy
      have := hb.size
      omega
    · simp only [if_neg e] at hy
      have := hg j y (by omega) hy
      have := hb.size
      omega
  · dsimp only at h1 h2
    by_cases ei : i = k
    · subst ei
      simp only [if_true] at h1
      rw [if_neg (by omega)] at h2
      have := hg j y (by omega) h2
      omega
    · rw [if_neg ei] at h1
      by_cases ej : j = k
      · subst ej
        simp only [if_true] at h2
        have := hg i y (by omega) h1
        omega
      · rw [if_neg ej] at h2
        exact hd i j y (by omega) (by omega) hij h1 h2
theorem Fill.frz {w w1 : World} {b n c k : Nat} {ts : List Ty} (h : Fill w b n c ts k) (hb : Below w.heap.size w w1) (i : Nat) : w1.frozen? ⟨b, i, none⟩ = false := by
  obtain ⟨K, S, G, hrow, _⟩ := h
  exact (hrow.below hb).frozen i
theorem Fill.next2 {w w1 : World} {b n c k : Nat} {ts : List Ty} (h : Fill w b n c ts k) (hb : Below w.heap.size w w1) {x : Ty} (hx : ts[k]? = some x) {s : Value}
    (ho : OS w1 x.args s (fun g => w.heap.size ≤ g ∧ g < w1.heap.size)) (hkn : k < n) :
    ((∃ q, w1.cell? ⟨b, k * 2, none⟩ = some (.int .i64 q)) ∧ (∃ q, w1.cell? ⟨b, k * 2 + 1, none⟩ = some q)) ∧
    Fill ((w1.setCell ⟨b, k * 2, none⟩ (.int .i64 x.kind)).setCell ⟨b, k * 2 + 1, none⟩ s) b n c ts (k + 1) := by
  refine ⟨?_, h.next hb hx ho hkn⟩
  obtain ⟨K, S, G, hrow, _⟩ := h
  exact ⟨⟨_, (hrow.below hb).kind hkn⟩, ⟨_, (hrow.below hb).args hkn⟩⟩
theorem Fill.full {w : World} {b c : Nat} {ts : List Ty} (h : Fill w b ts.length c ts ts.length) (hm : c ≤ maxLen) : OS w ts (.slice (some ⟨b, 0, none⟩) ts.length c) (fun g => b ≤ g ∧ g < w.heap.size) := by
  obtain ⟨K, S, G, hrow, ht, hg, hd⟩ := h
  refine .row K S G hrow hm ⟨Nat.le_refl _, hrow.lt⟩ (fun j x hj => (ht j x (List.getElem?_eq_some_iff.1 hj).1 hj).1) (fun j x hj => (ht j x (List.getElem?_eq_some_iff.1 hj).1 hj).2) (fun j x hj hx => ?_) hd
  have := hg j x hj hx
  exact ⟨⟨by omega, by omega⟩, by omega⟩
end Go.Proofs.YtfeijijeohfpgaaDoor

