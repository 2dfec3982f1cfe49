/-
  Data in memory, of no program: one struct more behind a row of the call's own; a row that is filled struct by struct.
-/
import Derived.Test.YtfeijijeohfpgaaDoorDat
namespace Go.Proofs.YtfeijijeohfpgaaDoor
open Go Go.RowKit

theorem mul_lt_next {i j k n : Nat} (h : j < n) (hi : i < k) : j * k + i < n * k := by
  have : (j + 1) * k ≤ n * k := Nat.mul_le_mul_right _ h
  rw [Nat.add_mul] at this
  omega

/-- ONE STRUCT MORE: afterwards all lies in blocks from base on, each apart. -/
theorem DO.grow {w : World} {base : Nat} {T : TypeId} {k n : Nat} {ds es : List D} {v : Value} {us : List Value} {F1 F2 : Nat → Prop} (h : DO w (.rows T k n ds) v F1) (hx : OSt w es us F2) (hk : es.length = k)
    (h1 : ∀ z, F1 z → base ≤ z ∧ ¬ F2 z) (h2 : ∀ z, F2 z → base ≤ z ∧ z < w.heap.size) :
    ∃ xs, w.ownsRow base T k v n xs ∧ ∀ (w' : World) (g cap : Nat), Appd w w' base T k v n xs us g cap →
      DO w' (.rows T k (n + 1) (ds ++ es)) (.slice (some ⟨g, 0, none⟩) (n + 1) cap) (fun z => base ≤ z ∧ z < w'.heap.size) := by
  obtain ⟨hul, G2, g1, g2, g3⟩ := hx
  have fin : ∀ (xs : List Value) (V : Nat → Value) (G : Nat → Nat → Prop) (hxs : xs.length = n * k) (hds : ds.length = n * k) (hV : ∀ i, i < n * k → xs[i]? = some (V i))
      (hD : ∀ i d, ds[i]? = some d → DO w d (V i) (fun z => G i z ∧ z < w.heap.size)) (hG : ∀ i z, i < n * k → G i z → F1 z ∧ v.ownBlock ≠ some z) (hd : ∀ i j z, i < n * k → j < n * k → i ≠ j → G i z → G j z → False)
      (hvb : ∀ z, F2 z → v.ownBlock ≠ some z) (w' : World) (g cap : Nat), Appd w w' base T k v n xs us g cap →
      DO w' (.rows T k (n + 1) (ds ++ es)) (.slice (some ⟨g, 0, none⟩) (n + 1) cap) (fun z => base ≤ z ∧ z < w'.heap.size) := by
    intro xs V G hxs hds hV hD hG hd hvb w' g cap hA
    have hs := hA.size
    obtain ⟨_, h0 | ⟨g', cap', cur', hv', hbg, hblk, hn', hm', hsz', htk⟩⟩ := hA.own
    · exact absurd h0.1 (by simp)
    simp only [Value.slice.injEq, Option.some.injEq, Addr.mk.injEq, true_and, and_true] at hv'
    obtain ⟨rfl, rfl⟩ := hv'
    have hlt := blk_lt hblk
    have hnk : (n + 1) * k = n * k + k := by rw [Nat.add_mul]; omega
    have hat : ∀ i, i < (n + 1) * k → cur'[i]? = (xs ++ us)[i]? := fun i hi => by
      rw [← htk, List.getElem?_take, if_pos hi, Array.getElem?_toList]
    have kept : ∀ z, z < w.heap.size → v.ownBlock ≠ some z → w'.heap[z]? = w.heap[z]? ∧ g ≠ z := hA.kept
    refine DO.rows cur' (fun i => if i < n * k then V i else (us[i - n * k]?).getD .nilIface) (fun i z => if i < n * k then G i z ∧ z < w.heap.size else G2 (i - n * k) z) hblk hsz' hn' hm' (by rw [List.length_append]; omega) ⟨hbg, hlt⟩ (fun i hi => ?_) (fun i d hi => ?_) (fun i z hi hz => ?_) (fun i j z hi hj hij hz1 hz2 => ?_)
    · rw [hat i hi]
      by_cases e : i < n * k
      · rw [List.getElem?_append_left (by omega), if_pos e]; exact hV i e
      · have hu : i - n * k < us.length := by omega
        rw [List.getElem?_append_right (by omega), hxs, if_neg e, List.getElem?_eq_getElem hu]; rfl
    · by_cases e : i < n * k
      · rw [List.getElem?_append_left (by omega)] at hi
        simp only [if_pos e]
        exact (hD i d hi).stays ⟨hs, fun z hz hl => (kept z hl (hG i z e hz.1).2).1⟩
      · rw [List.getElem?_append_right (by omega), hds] at hi
        simp only [if_neg e]
        have hlt2 := (List.getElem?_eq_some_iff.1 hi).1
        have hu : us[i - n * k]? = some ((us[i - n * k]?).getD .nilIface) := by rw [List.getElem?_eq_getElem (by omega)]; rfl
        exact (g1 _ d _ hi hu).stays ⟨hs, fun z hz hl => (kept z hl (hvb z (g2 _ z hlt2 hz))).1⟩
    · by_cases e : i < n * k
      · simp only [if_pos e] at hz
        obtain ⟨a1, a2⟩ := hG i z e hz.1
        exact ⟨⟨(h1 z a1).1, by omega⟩, fun e => (kept z hz.2 a2).2 e.symm⟩
      · simp only [if_neg e] at hz
        have hf := g2 _ z (by omega) hz
        obtain ⟨a1, a2⟩ := h2 z hf
        exact ⟨⟨a1, by omega⟩, fun e => (kept z a2 (hvb z hf)).2 e.symm⟩
    · by_cases ei : i < n * k
      · simp only [if_pos ei] at hz1
        by_cases ej : j < n * k
        · simp only [if_pos ej] at hz2
          exact hd i j z ei ej hij hz1.1 hz2.1
        · simp only [if_neg ej] at hz2
          exact (h1 z (hG i z ei hz1.1).1).2 (g2 _ z (by omega) hz2)
      · simp only [if_neg ei] at hz1
        by_cases ej : j < n * k
        · simp only [if_pos ej] at hz2
          exact (h1 z (hG j z ej hz2.1).1).2 (g2 _ z (by omega) hz1)
        · simp only [if_neg ej] at hz2
          exact g3 _ _ z (by omega) (by omega) (by omega) hz1 hz2
  cases h with
  | nil =>
    exact ⟨[], World.ownsRow_nil w base _ k, fin [] (fun _ => .nilIface) (fun _ _ => False) (by simp) (by simp) (fun i hi => by omega) (fun i d hi => by simp at hi) (fun i z hi => by omega) (fun i j z hi => by omega) (fun z _ => by simp [Value.ownBlock])⟩
  | @rows T k n b c ds F cur V G hblk hsz hn hm hl hF hv hr hG hd =>
    have hle : n * k ≤ c * k := Nat.mul_le_mul_right _ hn
    have hxl : (cur.toList.take (n * k)).length = n * k := by rw [List.length_take, Array.length_toList]; omega
    have ob : ∀ z, z ≠ b → (Value.slice (some ⟨b, 0, Option.none⟩) n c).ownBlock ≠ some z := fun z hz => by simp only [Value.ownBlock, ne_eq, Option.some.injEq]; omega
    refine ⟨cur.toList.take (n * k), ⟨hxl, Or.inr ⟨b, c, cur, rfl, (h1 b hF).1, hblk, hn, hm, hsz, rfl⟩⟩, fin _ V G hxl hl (fun i hi => by rw [List.getElem?_take, if_pos hi, Array.getElem?_toList]; exact hv i hi) (fun i d hi => (hr i d hi).inHeap) (fun i z hi hz => ⟨(hG i z hi hz).1, ob z (hG i z hi hz).2⟩) hd (fun z hz => ob z (fun e => (h1 b hF).2 (e ▸ hz)))⟩

/-- Cells stored one behind the other. -/
def setN (w : World) (b : Nat) : Nat → List Value → World
  | _, [] => w
  | o, v :: vs => setN (w.setCell ⟨b, o, none⟩ v) b (o + 1) vs
def setA (cur : Array Value) : Nat → List Value → Array Value
  | _, [] => cur
  | o, v :: vs => setA (cur.setIfInBounds o v) (o + 1) vs
theorem setA_size (vs : List Value) : ∀ (cur : Array Value) (o : Nat), (setA cur o vs).size = cur.size := by
  induction vs with
  | nil => intro _ _; rfl
  | cons v vs ih => intro cur o; rw [setA, ih]; simp
theorem setA_out (vs : List Value) : ∀ (cur : Array Value) (o i : Nat), (i < o ∨ o + vs.length ≤ i) → (setA cur o vs)[i]? = cur[i]? := by
  induction vs with
  | nil => intro _ _ _ _; rfl
  | cons v vs ih =>
    intro cur o i h
    simp only [List.length_cons] at h
    rw [setA, ih _ _ _ (by omega), Array.getElem?_setIfInBounds, if_neg (by omega)]
theorem setA_in (vs : List Value) : ∀ (cur : Array Value) (o i : Nat), i < vs.length → o + vs.length ≤ cur.size → (setA cur o vs)[o + i]? = vs[i]? := by
  induction vs with
  | nil => intro _ _ _ h; simp at h
  | cons v vs ih =>
    intro cur o i h hs
    simp only [List.length_cons] at h hs
    rw [setA]
    cases i with
    | zero =>
      rw [setA_out _ _ _ _ (by omega), Array.getElem?_setIfInBounds, if_pos (by omega), if_pos (by omega)]; rfl
    | succ i =>
      rw [show o + (i + 1) = o + 1 + i by omega, ih _ _ _ (by omega) (by simp; omega)]; rfl
theorem setN_block (vs : List Value) : ∀ (w : World) (b o : Nat) (cur : Array Value) (T : TypeId), w.heap[b]? = some (.cells cur T (0, 0)) → (setN w b o vs).heap[b]? = some (.cells (setA cur o vs) T (0, 0)) := by
  induction vs with
  | nil => intro w b o cur T h; exact h
  | cons v vs ih =>
    intro w b o cur T h
    exact ih _ b (o + 1) _ T (by simp [World.setCell, Array.getElem?_modify, h])
theorem setN_size (vs : List Value) : ∀ (w : World) (b o : Nat), (setN w b o vs).heap.size = w.heap.size := by
  induction vs with
  | nil => intro w b o; rfl
  | cons v vs ih => intro w b o; rw [setN, ih]; simp [World.setCell]
theorem setN_stays (vs : List Value) (F : Nat → Prop) : ∀ (w : World) (b o : Nat), ¬ F b → Stays F w (setN w b o vs) := by
  induction vs with
  | nil => intro w b o _; exact Stays.refl F w
  | cons v vs ih => intro w b o h; exact (setCell_stays w b o v F h).trans (ih _ b (o + 1) h)
theorem setN_below (vs : List Value) (B : Nat) : ∀ (w : World) (b o : Nat), B ≤ b → Below B w (setN w b o vs) := by
  induction vs with
  | nil => intro w b o _; exact Below.refl B w
  | cons v vs ih => intro w b o h; exact ((Below.refl B w).setCell (p := ⟨b, o, none⟩) h v).trans (ih _ b (o + 1) h)

/-- A row that is being filled, struct by struct: j of them are there. -/
def FilD (w : World) (b : Nat) (T : TypeId) (k n c : Nat) (ds : List D) (j : Nat) : Prop :=
  ∃ (cur : Array Value) (V : Nat → Value) (G : Nat → Nat → Prop), w.heap[b]? = some (.cells cur T (0, 0)) ∧ cur.size = c * k ∧ n ≤ c ∧ (∀ i, i < j * k → cur[i]? = some (V i)) ∧ (∀ i d, i < j * k → ds[i]? = some d → DO w d (V i) (G i)) ∧
    (∀ i z, i < j * k → G i z → b < z ∧ z < w.heap.size) ∧ (∀ i i' z, i < j * k → i' < j * k → i ≠ i' → G i z → G i' z → False)
theorem FilD.lt {w : World} {b k n c j : Nat} {T : TypeId} {ds : List D} (h : FilD w b T k n c ds j) : b < w.heap.size := by
  obtain ⟨cur, V, G, hb, _⟩ := h
  exact blk_lt hb
theorem FilD.start {w : World} {base b n c k : Nat} {T : TypeId} {xs : List Value} {ds : List D} (h : w.ownsRow base T k (.slice (some ⟨b, 0, none⟩) n c) n xs) : FilD w b T k n c ds 0 := by
  obtain ⟨_, h0 | ⟨g, cap, cur, hv, hg, hblk, h1, h2, h3, h4⟩⟩ := h
  · exact absurd h0.1 (by simp)
  · simp only [Value.slice.injEq, Option.some.injEq, Addr.mk.injEq, true_and, and_true] at hv
    obtain ⟨rfl, rfl⟩ := hv
    exact ⟨cur, fun _ => .nilIface, fun _ _ => False, hblk, h3, h1, fun i hi => by simp at hi, fun i d hi => by simp at hi, fun i z hi => by simp at hi, fun i i' z hi => by simp at hi⟩
theorem FilD.frz {w w1 : World} {b k n c j : Nat} {T : TypeId} {ds : List D} (h : FilD w b T k n c ds j) (hb : Below w.heap.size w w1) (i : Nat) : w1.frozen? ⟨b, i, none⟩ = false := by
  have hl := h.lt
  obtain ⟨cur, V, G, hblk, _⟩ := h
  have := (hb.block b hl).trans hblk
  simp [World.frozen?, this]
/-- The j-th struct was made behind; it is stored. -/
theorem FilD.next {w w1 : World} {b k n c j : Nat} {T : TypeId} {ds es : List D} {us : List Value} (h : FilD w b T k n c ds j) (hb : Below w.heap.size w w1) (hj : j < n) (hk : es.length = k) (hes : ∀ i, i < k → ds[j * k + i]? = es[i]?)
    (ho : OSt w1 es us (fun g => w.heap.size ≤ g ∧ g < w1.heap.size)) :
    (∀ i, i < k → ∃ q, w1.cell? ⟨b, j * k + i, none⟩ = some q) ∧ FilD (setN w1 b (j * k) us) b T k n c ds (j + 1) := by
  have hlt := h.lt
  obtain ⟨cur, V, G, hblk, hsz, hn, hV, hD, hG, hd⟩ := h
  obtain ⟨hul, G2, g1, g2, g3⟩ := ho
  have hb1 := (hb.block b hlt).trans hblk
  have hin : ∀ i, i < k → j * k + i < c * k := fun i hi => mul_lt_next (by omega) hi
  have hnk : (j + 1) * k = j * k + k := by rw [Nat.add_mul]; omega
  have hfit : j * k + us.length ≤ cur.size := by
    rcases Nat.eq_zero_or_pos k with h0 | h0
    · have hu0 : us.length = 0 := by omega
      rw [hu0, h0]; simp
    · have := hin (k - 1) (by omega); omega
  have stay : ∀ F : Nat → Prop, ¬ F b → Stays F w1 (setN w1 b (j * k) us) := fun F hF => setN_stays us F w1 b (j * k) hF
  refine ⟨fun i hi => ?_, setA cur (j * k) us, fun i => if i < j * k then V i else (us[i - j * k]?).getD .nilIface, fun i z => if i < j * k then G i z else G2 (i - j * k) z, setN_block us w1 b (j * k) cur T hb1, by rw [setA_size, hsz], hn, fun i hi => ?_, fun i d hi hdi => ?_, fun i z hi hz => ?_, fun i i' z hi hi' hii h1 h2 => ?_⟩
  · have : j * k + i < cur.size := by have := hin i hi; omega
    refine ⟨cur[j * k + i], ?_⟩
    simp [World.cell?, hb1, Array.getElem?_eq_getElem this]
  · by_cases e : i < j * k
    · rw [setA_out _ _ _ _ (Or.inl e)]; dsimp only; rw [if_pos e]; exact hV i e
    · have := setA_in us cur (j * k) (i - j * k) (by omega) hfit
      rw [show j * k + (i - j * k) = i by omega] at this
      rw [this]; dsimp only; rw [if_neg e, List.getElem?_eq_getElem (by omega)]; rfl
  · by_cases e : i < j * k
    · simp only [if_pos e]
      exact ((hD i d e hdi).keep hb).stays (stay _ (fun hh => by have := hG i b e hh; omega))
    · simp only [if_neg e]
      have he := hes (i - j * k) (by omega)
      rw [show j * k + (i - j * k) = i by omega, hdi] at he
      have hu : us[i - j * k]? = some ((us[i - j * k]?).getD .nilIface) := by rw [List.getElem?_eq_getElem (by omega)]; rfl
      exact (g1 _ d _ he.symm hu).stays (stay _ (fun hh => by have := g2 _ b (by omega) hh; omega))
  · rw [setN_size]
    by_cases e : i < j * k
    · simp only [if_pos e] at hz
      have := hG i z e hz
      have := hb.size
      omega
    · simp only [if_neg e] at hz
      have := g2 _ z (by omega) hz
      omega
  · by_cases ei : i < j * k
    · simp only [if_pos ei] at h1
      by_cases ej : i' < j * k
      · simp only [if_pos ej] at h2
        exact hd i i' z ei ej hii h1 h2
      · simp only [if_neg ej] at h2
        have := hG i z ei h1
        have := g2 _ z (by omega) h2
        omega
    · simp only [if_neg ei] at h1
      by_cases ej : i' < j * k
      · simp only [if_pos ej] at h2
        have := hG i' z ej h2
        have := g2 _ z (by omega) h1
        omega
      · simp only [if_neg ej] at h2
        exact g3 _ _ z (by omega) (by omega) (by omega) h1 h2
theorem FilD.full {w : World} {b k n c : Nat} {T : TypeId} {ds : List D} (h : FilD w b T k n c ds n) (hl : ds.length = n * k) (hm : c ≤ maxLen) : DO w (.rows T k n ds) (.slice (some ⟨b, 0, none⟩) n c) (fun g => b ≤ g ∧ g < w.heap.size) := by
  have hlt := h.lt
  obtain ⟨cur, V, G, hblk, hsz, hn, hV, hD, hG, hd⟩ := h
  refine .rows cur V G hblk hsz hn hm hl ⟨Nat.le_refl _, hlt⟩ hV (fun i d hi => hD i d (ds_lt hi hl) hi) (fun i z hi hz => ?_) hd
  have := hG i z hi hz
  exact ⟨⟨by omega, by omega⟩, by omega⟩
end Go.Proofs.YtfeijijeohfpgaaDoor

