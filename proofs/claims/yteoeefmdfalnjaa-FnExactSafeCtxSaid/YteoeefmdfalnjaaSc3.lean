/-
  Several texts of the proof in one (each says below what it holds): Dat Dat2 DatTy Ctx Gen1.
-/
import Derived.Test.YteoeefmdfalnjaaSc1
import Derived.Test.YteoeefmdfalnjaaSc2
/- Dat: Data in memory, of no program: a cell, or a slice of structs whose cells lie flat; what a slice holds, that it holds it in every world that keeps its blocks; memory of the call's own, each block apart; one struct more; a row that is filled. -/
namespace Go.Proofs.Yteoeefmdfalnjaa
open Go Go.RowKit

/-- A cell, or a slice of n structs of k cells each, of the type T; the cells of all n stand one behind the other. -/
inductive D where
  | cell (u : Value)
  | rows (T : TypeId) (k n : Nat) (ds : List D)

/-- The value v is the datum; C: the blocks it may lie in. -/
inductive DM (w : World) (C : Nat → Prop) : D → Value → Prop
  | cell (u : Value) : DM w C (.cell u) u
  | nil (T : TypeId) (k : Nat) (a : Option Addr) (c : Nat) : DM w C (.rows T k 0 []) (.slice a 0 c)
  | rows {T : TypeId} {k n b o c : Nat} {ds : List D} (V : Nat → Value) (h1 : 1 ≤ n) (hc : n ≤ c) (hm : c ≤ 9223372036854775807) (hl : ds.length = n * k) (hC : C b) (hb : b < w.heap.size)
      (hv : ∀ i d, ds[i]? = some d → w.cell? ⟨b, o + i, none⟩ = some (V i)) (hr : ∀ i d, ds[i]? = some d → DM w C d (V i)) : DM w C (.rows T k n ds) (.slice (some ⟨b, o, none⟩) n c)

theorem DM.stays {w w' : World} {C : Nat → Prop} {d : D} {v : Value} (h : DM w C d v) (hs : Stays C w w') : DM w' C d v := by
  induction h with
  | cell u => exact .cell u
  | nil T k a c => exact .nil T k a c
  | rows V h1 hc hm hl hC hb hv hr ih =>
    exact .rows V h1 hc hm hl hC (Nat.lt_of_lt_of_le hb hs.1) (fun i d hi => by rw [World.cell?_of_block (w := _) (hs.2 _ hC hb)]; exact hv i d hi) ih
theorem DM.keep {w w' : World} {C : Nat → Prop} {d : D} {v : Value} (h : DM w C d v) (hb : Below w.heap.size w w') : DM w' C d v := h.stays (.of_below hb)
theorem DM.mono {w : World} {C C' : Nat → Prop} {d : D} {v : Value} (h : DM w C d v) (hC' : ∀ b, C b → b < w.heap.size → C' b) : DM w C' d v := by
  induction h with
  | cell u => exact .cell u
  | nil T k a c => exact .nil T k a c
  | rows V h1 hc hm hl hC hb hv hr ih => exact .rows V h1 hc hm hl (hC' _ hC hb) hb hv ih
theorem DM.form {w : World} {C : Nat → Prop} {T : TypeId} {k n : Nat} {ds : List D} {v : Value} (h : DM w C (.rows T k n ds) v) : ∃ a c, v = .slice a n c := by
  cases h with
  | nil => exact ⟨_, _, rfl⟩
  | rows => exact ⟨_, _, rfl⟩
theorem DM.len {w : World} {C : Nat → Prop} {T : TypeId} {k n : Nat} {ds : List D} {v : Value} (h : DM w C (.rows T k n ds) v) : n ≤ 9223372036854775807 ∧ ds.length = n * k := by
  cases h with
  | nil => simp
  | rows V h1 hc hm hl => exact ⟨by omega, hl⟩
theorem DM.val {w : World} {C : Nat → Prop} {u v : Value} (h : DM w C (.cell u) v) : v = u := by
  cases h; rfl
/-- One cell of a slice of structs, where it lies: in every world that keeps the blocks. -/
theorem DM.part {w : World} {C : Nat → Prop} {T : TypeId} {k n c : Nat} {p : Option Addr} {ds : List D} (h : DM w C (.rows T k n ds) (.slice p n c)) (hn : 0 < ds.length) :
    ∃ (b o : Nat) (V : Nat → Value), p = some ⟨b, o, none⟩ ∧ C b ∧ b < w.heap.size ∧ (∀ i d, ds[i]? = some d → DM w C d (V i) ∧ ∀ w', Stays C w w' → w'.cell? ⟨b, o + i, none⟩ = some (V i)) := by
  cases h with
  | nil => simp at hn
  | @rows T k n b o c ds V h1 hc hm hl hC hb hv hr =>
    exact ⟨b, o, V, rfl, hC, hb, fun i d hi => ⟨hr i d hi, fun w' hw => (World.cell?_of_block (w := w) (a := ⟨b, o + i, none⟩) (hw.2 b hC hb)).trans (hv i d hi)⟩⟩

/-- The value v is the datum, in rows of the call's own; F: the blocks, which are apart. -/
inductive DO (w : World) : D → Value → (Nat → Prop) → Prop
  | cell (u : Value) (F : Nat → Prop) : DO w (.cell u) u F
  | nil (T : TypeId) (k : Nat) (F : Nat → Prop) : DO w (.rows T k 0 []) (.slice none 0 0) F
  | rows {T : TypeId} {k n b c : Nat} {ds : List D} {F : Nat → Prop} (cur : Array Value) (V : Nat → Value) (G : Nat → Nat → Prop) (hblk : w.heap[b]? = some (.cells cur T (0, 0))) (hsz : cur.size = c * k) (hn : n ≤ c) (hm : c ≤ maxLen)
      (hl : ds.length = n * k) (hF : F b) (hv : ∀ i, i < n * k → cur[i]? = some (V i)) (hr : ∀ i d, ds[i]? = some d → DO w d (V i) (G i))
      (hG : ∀ i z, i < n * k → G i z → F z ∧ z ≠ b) (hd : ∀ i j z, i < n * k → j < n * k → i ≠ j → G i z → G j z → False) : DO w (.rows T k n ds) (.slice (some ⟨b, 0, none⟩) n c) F

theorem blk_lt {w : World} {b : Nat} {o : Obj} (h : w.heap[b]? = some o) : b < w.heap.size := (Array.getElem?_eq_some_iff.1 h).1
theorem ds_lt {ds : List D} {i m : Nat} {d : D} (h : ds[i]? = some d) (hl : ds.length = m) : i < m := hl ▸ (List.getElem?_eq_some_iff.1 h).1

theorem DO.stays {w w' : World} {F : Nat → Prop} {d : D} {v : Value} (h : DO w d v F) : Stays F w w' → DO w' d v F := by
  induction h with
  | cell u F => intro _; exact .cell u F
  | nil T k F => intro _; exact .nil T k F
  | rows cur V G hblk hsz hn hm hl hF hv hr hG hd ih =>
    intro hs
    exact .rows cur V G ((hs.2 _ hF (blk_lt hblk)).trans hblk) hsz hn hm hl hF hv (fun i d hi => ih i d hi ⟨hs.1, fun b hb hlt => hs.2 b (hG i b (ds_lt hi hl) hb).1 hlt⟩) hG hd
theorem DO.keep {w w' : World} {F : Nat → Prop} {d : D} {v : Value} (h : DO w d v F) (hb : Below w.heap.size w w') : DO w' d v F := h.stays (.of_below hb)
theorem DO.mono {w : World} {F F' : Nat → Prop} {d : D} {v : Value} (h : DO w d v F) (hF' : ∀ b, F b → F' b) : DO w d v F' := by
  cases h with
  | cell => exact .cell _ F'
  | nil => exact .nil _ _ F'
  | rows cur V G hblk hsz hn hm hl hF hv hr hG hd => exact .rows cur V G hblk hsz hn hm hl (hF' _ hF) hv hr (fun i z hi hz => ⟨hF' _ (hG i z hi hz).1, (hG i z hi hz).2⟩) hd
theorem DO.inHeap {w : World} {F : Nat → Prop} {d : D} {v : Value} (h : DO w d v F) : DO w d v (fun z => F z ∧ z < w.heap.size) := by
  induction h with
  | cell u F => exact .cell u _
  | nil T k F => exact .nil T k _
  | rows cur V G hblk hsz hn hm hl hF hv hr hG hd ih =>
    exact .rows cur V (fun i z => G i z ∧ z < w.heap.size) hblk hsz hn hm hl ⟨hF, blk_lt hblk⟩ hv ih (fun i z hi hz => ⟨⟨(hG i z hi hz.1).1, hz.2⟩, (hG i z hi hz.1).2⟩) (fun i j z hi hj hij h1 h2 => hd i j z hi hj hij h1.1 h2.1)
theorem DO.dm {w : World} {F : Nat → Prop} {d : D} {v : Value} (h : DO w d v F) : DM w F d v := by
  induction h with
  | cell u F => exact .cell u
  | nil T k F => exact .nil T k _ _
  | @rows T k n b c ds F cur V G hblk hsz hn hm hl hF hv hr hG hd ih =>
    by_cases h0 : n = 0
    · subst h0
      have : ds = [] := List.eq_nil_of_length_eq_zero (by simpa using hl)
      subst this
      exact .nil _ _ _ _
    · refine .rows V (by omega) hn (by unfold maxLen at hm; omega) hl hF (blk_lt hblk) (fun i d hi => ?_) (fun i d hi => (ih i d hi).mono (fun z hz _ => (hG i z (ds_lt hi hl) hz).1))
      rw [Nat.zero_add]
      simp only [World.cell?, hblk]
      exact hv i (ds_lt hi hl)
theorem DO.form {w : World} {F : Nat → Prop} {T : TypeId} {k n : Nat} {ds : List D} {v : Value} (h : DO w (.rows T k n ds) v F) : ∃ a c, v = .slice a n c := h.dm.form

theorem DO.inv {w : World} {F : Nat → Prop} {T : TypeId} {k n : Nat} {ds : List D} {v : Value} (h : DO w (.rows T k n ds) v F) : (n = 0 ∧ ds = [] ∧ v = .slice none 0 0) ∨
    ∃ (b c : Nat) (cur : Array Value) (V : Nat → Value) (G : Nat → Nat → Prop), v = .slice (some ⟨b, 0, none⟩) n c ∧ w.heap[b]? = some (.cells cur T (0, 0)) ∧ cur.size = c * k ∧ n ≤ c ∧ c ≤ maxLen ∧ ds.length = n * k ∧ F b ∧ (∀ i, i < n * k → cur[i]? = some (V i)) ∧
      (∀ i d, ds[i]? = some d → DO w d (V i) (G i)) ∧ (∀ i z, i < n * k → G i z → F z ∧ z ≠ b) ∧ (∀ i j z, i < n * k → j < n * k → i ≠ j → G i z → G j z → False) := by
  cases h with
  | nil => exact Or.inl ⟨rfl, rfl, rfl⟩
  | rows cur V G hblk hsz hn hm hl hF hv hr hG hd => exact Or.inr ⟨_, _, cur, V, G, rfl, hblk, hsz, hn, hm, hl, hF, hv, hr, hG, hd⟩
theorem DO.val {w : World} {F : Nat → Prop} {u v : Value} (h : DO w (.cell u) v F) : v = u := by
  cases h; rfl

/-- A struct's cells, each a datum. -/
def MS (w : World) (C : Nat → Prop) (ds : List D) (vs : List Value) : Prop := vs.length = ds.length ∧ ∀ (i : Nat) (d : D) (v : Value), ds[i]? = some d → vs[i]? = some v → DM w C d v
structure OSt (w : World) (ds : List D) (vs : List Value) (F : Nat → Prop) : Prop where
  len : vs.length = ds.length
  G : ∃ G : Nat → Nat → Prop, (∀ (i : Nat) (d : D) (v : Value), ds[i]? = some d → vs[i]? = some v → DO w d v (G i)) ∧ (∀ i z, i < ds.length → G i z → F z) ∧ ∀ i j z, i < ds.length → j < ds.length → i ≠ j → G i z → G j z → False
theorem MS.stays {w w' : World} {C : Nat → Prop} {ds : List D} {vs : List Value} (h : MS w C ds vs) (hs : Stays C w w') : MS w' C ds vs := ⟨h.1, fun i d v hd hv => (h.2 i d v hd hv).stays hs⟩
theorem MS.keep {w w' : World} {C : Nat → Prop} {ds : List D} {vs : List Value} (h : MS w C ds vs) (hb : Below w.heap.size w w') : MS w' C ds vs := h.stays (.of_below hb)
theorem MS.mono {w : World} {C C' : Nat → Prop} {ds : List D} {vs : List Value} (h : MS w C ds vs) (hC' : ∀ b, C b → b < w.heap.size → C' b) : MS w C' ds vs := ⟨h.1, fun i d v hd hv => (h.2 i d v hd hv).mono hC'⟩
theorem OSt.stays {w w' : World} {F : Nat → Prop} {ds : List D} {vs : List Value} (h : OSt w ds vs F) (hs : Stays F w w') : OSt w' ds vs F := by
  obtain ⟨hl, G, h1, h2, h3⟩ := h
  exact ⟨hl, G, fun i d v hd hv => (h1 i d v hd hv).stays ⟨hs.1, fun b hb hlt => hs.2 b (h2 i b (List.getElem?_eq_some_iff.1 hd).1 hb) hlt⟩, h2, h3⟩
theorem OSt.keep {w w' : World} {F : Nat → Prop} {ds : List D} {vs : List Value} (h : OSt w ds vs F) (hb : Below w.heap.size w w') : OSt w' ds vs F := h.stays (.of_below hb)
theorem OSt.mono {w : World} {F F' : Nat → Prop} {ds : List D} {vs : List Value} (h : OSt w ds vs F) (hF : ∀ b, F b → F' b) : OSt w ds vs F' := by
  obtain ⟨hl, G, h1, h2, h3⟩ := h
  exact ⟨hl, G, h1, fun i z hi hz => hF z (h2 i z hi hz), h3⟩
theorem OSt.ms {w : World} {F : Nat → Prop} {ds : List D} {vs : List Value} (h : OSt w ds vs F) : MS w F ds vs := by
  obtain ⟨hl, G, h1, h2, h3⟩ := h
  exact ⟨hl, fun i d v hd hv => (h1 i d v hd hv).dm.mono (fun z hz _ => h2 i z (List.getElem?_eq_some_iff.1 hd).1 hz)⟩
end Go.Proofs.Yteoeefmdfalnjaa
/- Dat2: Data in memory, of no program: one struct more behind a row of the call's own; a row that is filled struct by struct. -/
namespace Go.Proofs.Yteoeefmdfalnjaa
open Go Go.RowKit

theorem mul_lt_next {i j k n : Nat} (h : j < n) (hi : i < k) : j * k + i < n * k := by
  have : (j + 1) * k ≤ n * k := Nat.mul_le_mul_right _ h
  rw [Nat.add_mul] at this
  omega

/-- ONE STRUCT MORE: afterwards all lies in blocks from base on, each apart. -/
theorem DO.grow {w : World} {base : Nat} {T : TypeId} {k n : Nat} {ds es : List D} {v : Value} {us : List Value} {F1 F2 : Nat → Prop} (h : DO w (.rows T k n ds) v F1) (hx : OSt w es us F2) (hk : es.length = k)
    (h1 : ∀ z, F1 z → base ≤ z ∧ ¬ F2 z) (h2 : ∀ z, F2 z → base ≤ z ∧ z < w.heap.size) :
    ∃ xs, w.ownsRow base T k v n xs ∧ ∀ (w' : World) (g cap : Nat), Appd w w' base T k v n xs us g cap →
      DO w' (.rows T k (n + 1) (ds ++ es)) (.slice (some ⟨g, 0, none⟩) (n + 1) cap) (fun z => base ≤ z ∧ z < w'.heap.size) := by
  obtain ⟨hul, G2, g1, g2, g3⟩ := hx
  have fin : ∀ (xs : List Value) (V : Nat → Value) (G : Nat → Nat → Prop) (hxs : xs.length = n * k) (hds : ds.length = n * k) (hV : ∀ i, i < n * k → xs[i]? = some (V i))
      (hD : ∀ i d, ds[i]? = some d → DO w d (V i) (fun z => G i z ∧ z < w.heap.size)) (hG : ∀ i z, i < n * k → G i z → F1 z ∧ v.ownBlock ≠ some z) (hd : ∀ i j z, i < n * k → j < n * k → i ≠ j → G i z → G j z → False)
      (hvb : ∀ z, F2 z → v.ownBlock ≠ some z) (w' : World) (g cap : Nat), Appd w w' base T k v n xs us g cap →
      DO w' (.rows T k (n + 1) (ds ++ es)) (.slice (some ⟨g, 0, none⟩) (n + 1) cap) (fun z => base ≤ z ∧ z < w'.heap.size) := by
    intro xs V G hxs hds hV hD hG hd hvb w' g cap hA
    have hs := hA.size
    obtain ⟨_, h0 | ⟨g', cap', cur', hv', hbg, hblk, hn', hm', hsz', htk⟩⟩ := hA.own
    · exact absurd h0.1 (by simp)
    simp only [Value.slice.injEq, Option.some.injEq, Addr.mk.injEq, true_and, and_true] at hv'
    obtain ⟨rfl, rfl⟩ := hv'
    have hlt := blk_lt hblk
    have hnk : (n + 1) * k = n * k + k := by rw [Nat.add_mul]; omega
    have hat : ∀ i, i < (n + 1) * k → cur'[i]? = (xs ++ us)[i]? := fun i hi => by
      rw [← htk, List.getElem?_take, if_pos hi, Array.getElem?_toList]
    have kept : ∀ z, z < w.heap.size → v.ownBlock ≠ some z → w'.heap[z]? = w.heap[z]? ∧ g ≠ z := hA.kept
    refine DO.rows cur' (fun i => if i < n * k then V i else (us[i - n * k]?).getD .nilIface) (fun i z => if i < n * k then G i z ∧ z < w.heap.size else G2 (i - n * k) z) hblk hsz' hn' hm' (by rw [List.length_append]; omega) ⟨hbg, hlt⟩ (fun i hi => ?_) (fun i d hi => ?_) (fun i z hi hz => ?_) (fun i j z hi hj hij hz1 hz2 => ?_)
    · rw [hat i hi]
      by_cases e : i < n * k
      · rw [List.getElem?_append_left (by omega), if_pos e]; exact hV i e
      · have hu : i - n * k < us.length := by omega
        rw [List.getElem?_append_right (by omega), hxs, if_neg e, List.getElem?_eq_getElem hu]; rfl
    · by_cases e : i < n * k
      · rw [List.getElem?_append_left (by omega)] at hi
        simp only [if_pos e]
        exact (hD i d hi).stays ⟨hs, fun z hz hl => (kept z hl (hG i z e hz.1).2).1⟩
      · rw [List.getElem?_append_right (by omega), hds] at hi
        simp only [if_neg e]
        have hlt2 := (List.getElem?_eq_some_iff.1 hi).1
        have hu : us[i - n * k]? = some ((us[i - n * k]?).getD .nilIface) := by rw [List.getElem?_eq_getElem (by omega)]; rfl
        exact (g1 _ d _ hi hu).stays ⟨hs, fun z hz hl => (kept z hl (hvb z (g2 _ z hlt2 hz))).1⟩
    · by_cases e : i < n * k
      · simp only [if_pos e] at hz
        obtain ⟨a1, a2⟩ := hG i z e hz.1
        exact ⟨⟨(h1 z a1).1, by omega⟩, fun e => (kept z hz.2 a2).2 e.symm⟩
      · simp only [if_neg e] at hz
        have hf := g2 _ z (by omega) hz
        obtain ⟨a1, a2⟩ := h2 z hf
        exact ⟨⟨a1, by omega⟩, fun e => (kept z a2 (hvb z hf)).2 e.symm⟩
    · by_cases ei : i < n * k
      · simp only [if_pos ei] at hz1
        by_cases ej : j < n * k
        · simp only [if_pos ej] at hz2
          exact hd i j z ei ej hij hz1.1 hz2.1
        · simp only [if_neg ej] at hz2
          exact (h1 z (hG i z ei hz1.1).1).2 (g2 _ z (by omega) hz2)
      · simp only [if_neg ei] at hz1
        by_cases ej : j < n * k
        · simp only [if_pos ej] at hz2
          exact (h1 z (hG j z ej hz2.1).1).2 (g2 _ z (by omega) hz1)
        · simp only [if_neg ej] at hz2
          exact g3 _ _ z (by omega) (by omega) (by omega) hz1 hz2
  cases h with
  | nil =>
    exact ⟨[], World.ownsRow_nil w base _ k, fin [] (fun _ => .nilIface) (fun _ _ => False) (by simp) (by simp) (fun i hi => by omega) (fun i d hi => by simp at hi) (fun i z hi => by omega) (fun i j z hi => by omega) (fun z _ => by simp [Value.ownBlock])⟩
  | @rows T k n b c ds F cur V G hblk hsz hn hm hl hF hv hr hG hd =>
    have hle : n * k ≤ c * k := Nat.mul_le_mul_right _ hn
    have hxl : (cur.toList.take (n * k)).length = n * k := by rw [List.length_take, Array.length_toList]; omega
    have ob : ∀ z, z ≠ b → (Value.slice (some ⟨b, 0, Option.none⟩) n c).ownBlock ≠ some z := fun z hz => by simp only [Value.ownBlock, ne_eq, Option.some.injEq]; omega
    refine ⟨cur.toList.take (n * k), ⟨hxl, Or.inr ⟨b, c, cur, rfl, (h1 b hF).1, hblk, hn, hm, hsz, rfl⟩⟩, fin _ V G hxl hl (fun i hi => by rw [List.getElem?_take, if_pos hi, Array.getElem?_toList]; exact hv i hi) (fun i d hi => (hr i d hi).inHeap) (fun i z hi hz => ⟨(hG i z hi hz).1, ob z (hG i z hi hz).2⟩) hd (fun z hz => ob z (fun e => (h1 b hF).2 (e ▸ hz)))⟩

/-- Cells stored one behind the other. -/
def setN (w : World) (b : Nat) : Nat → List Value → World
  | _, [] => w
  | o, v :: vs => setN (w.setCell ⟨b, o, none⟩ v) b (o + 1) vs
def setA (cur : Array Value) : Nat → List Value → Array Value
  | _, [] => cur
  | o, v :: vs => setA (cur.setIfInBounds o v) (o + 1) vs
theorem setA_size (vs : List Value) : ∀ (cur : Array Value) (o : Nat), (setA cur o vs).size = cur.size := by
  induction vs with
  | nil => intro _ _; rfl
  | cons v vs ih => intro cur o; rw [setA, ih]; simp
theorem setA_out (vs : List Value) : ∀ (cur : Array Value) (o i : Nat), (i < o ∨ o + vs.length ≤ i) → (setA cur o vs)[i]? = cur[i]? := by
  induction vs with
  | nil => intro _ _ _ _; rfl
  | cons v vs ih =>
    intro cur o i h
    simp only [List.length_cons] at h
    rw [setA, ih _ _ _ (by omega), Array.getElem?_setIfInBounds, if_neg (by omega)]
theorem setA_in (vs : List Value) : ∀ (cur : Array Value) (o i : Nat), i < vs.length → o + vs.length ≤ cur.size → (setA cur o vs)[o + i]? = vs[i]? := by
  induction vs with
  | nil => intro _ _ _ h; simp at h
  | cons v vs ih =>
    intro cur o i h hs
    simp only [List.length_cons] at h hs
    rw [setA]
    cases i with
    | zero =>
      rw [setA_out _ _ _ _ (by omega), Array.getElem?_setIfInBounds, if_pos (by omega), if_pos (by omega)]; rfl
    | succ i =>
      rw [show o + (i + 1) = o + 1 + i by omega, ih _ _ _ (by omega) (by simp; omega)]; rfl
theorem setN_block (vs : List Value) : ∀ (w : World) (b o : Nat) (cur : Array Value) (T : TypeId), w.heap[b]? = some (.cells cur T (0, 0)) → (setN w b o vs).heap[b]? = some (.cells (setA cur o vs) T (0, 0)) := by
  induction vs with
  | nil => intro w b o cur T h; exact h
  | cons v vs ih =>
    intro w b o cur T h
    exact ih _ b (o + 1) _ T (by simp [World.setCell, Array.getElem?_modify, h])
theorem setN_size (vs : List Value) : ∀ (w : World) (b o : Nat), (setN w b o vs).heap.size = w.heap.size := by
  induction vs with
  | nil => intro w b o; rfl
  | cons v vs ih => intro w b o; rw [setN, ih]; simp [World.setCell]
theorem setN_stays (vs : List Value) (F : Nat → Prop) : ∀ (w : World) (b o : Nat), ¬ F b → Stays F w (setN w b o vs) := by
  induction vs with
  | nil => intro w b o _; exact Stays.refl F w
  | cons v vs ih => intro w b o h; exact (setCell_stays w b o v F h).trans (ih _ b (o + 1) h)
theorem setN_below (vs : List Value) (B : Nat) : ∀ (w : World) (b o : Nat), B ≤ b → Below B w (setN w b o vs) := by
  induction vs with
  | nil => intro w b o _; exact Below.refl B w
  | cons v vs ih => intro w b o h; exact ((Below.refl B w).setCell (p := ⟨b, o, none⟩) h v).trans (ih _ b (o + 1) h)

/-- A row that is being filled, struct by struct: j of them are there. -/
def FilD (w : World) (b : Nat) (T : TypeId) (k n c : Nat) (ds : List D) (j : Nat) : Prop :=
  ∃ (cur : Array Value) (V : Nat → Value) (G : Nat → Nat → Prop), w.heap[b]? = some (.cells cur T (0, 0)) ∧ cur.size = c * k ∧ n ≤ c ∧ (∀ i, i < j * k → cur[i]? = some (V i)) ∧ (∀ i d, i < j * k → ds[i]? = some d → DO w d (V i) (G i)) ∧
    (∀ i z, i < j * k → G i z → b < z ∧ z < w.heap.size) ∧ (∀ i i' z, i < j * k → i' < j * k → i ≠ i' → G i z → G i' z → False)
theorem FilD.lt {w : World} {b k n c j : Nat} {T : TypeId} {ds : List D} (h : FilD w b T k n c ds j) : b < w.heap.size := by
  obtain ⟨cur, V, G, hb, _⟩ := h
  exact blk_lt hb
theorem FilD.start {w : World} {base b n c k : Nat} {T : TypeId} {xs : List Value} {ds : List D} (h : w.ownsRow base T k (.slice (some ⟨b, 0, none⟩) n c) n xs) : FilD w b T k n c ds 0 := by
  obtain ⟨_, h0 | ⟨g, cap, cur, hv, hg, hblk, h1, h2, h3, h4⟩⟩ := h
  · exact absurd h0.1 (by simp)
  · simp only [Value.slice.injEq, Option.some.injEq, Addr.mk.injEq, true_and, and_true] at hv
    obtain ⟨rfl, rfl⟩ := hv
    exact ⟨cur, fun _ => .nilIface, fun _ _ => False, hblk, h3, h1, fun i hi => by simp at hi, fun i d hi => by simp at hi, fun i z hi => by simp at hi, fun i i' z hi => by simp at hi⟩
theorem FilD.frz {w w1 : World} {b k n c j : Nat} {T : TypeId} {ds : List D} (h : FilD w b T k n c ds j) (hb : Below w.heap.size w w1) (i : Nat) : w1.frozen? ⟨b, i, none⟩ = false := by
  have hl := h.lt
  obtain ⟨cur, V, G, hblk, _⟩ := h
  have := (hb.block b hl).trans hblk
  simp [World.frozen?, this]
/-- The j-th struct was made behind; it is stored. -/
theorem FilD.next {w w1 : World} {b k n c j : Nat} {T : TypeId} {ds es : List D} {us : List Value} (h : FilD w b T k n c ds j) (hb : Below w.heap.size w w1) (hj : j < n) (hk : es.length = k) (hes : ∀ i, i < k → ds[j * k + i]? = es[i]?)
    (ho : OSt w1 es us (fun g => w.heap.size ≤ g ∧ g < w1.heap.size)) :
    (∀ i, i < k → ∃ q, w1.cell? ⟨b, j * k + i, none⟩ = some q) ∧ FilD (setN w1 b (j * k) us) b T k n c ds (j + 1) := by
  have hlt := h.lt
  obtain ⟨cur, V, G, hblk, hsz, hn, hV, hD, hG, hd⟩ := h
  obtain ⟨hul, G2, g1, g2, g3⟩ := ho
  have hb1 := (hb.block b hlt).trans hblk
  have hin : ∀ i, i < k → j * k + i < c * k := fun i hi => mul_lt_next (by omega) hi
  have hnk : (j + 1) * k = j * k + k := by rw [Nat.add_mul]; omega
  have hfit : j * k + us.length ≤ cur.size := by
    rcases Nat.eq_zero_or_pos k with h0 | h0
    · have hu0 : us.length = 0 := by omega
      rw [hu0, h0]; simp
    · have := hin (k - 1) (by omega); omega
  have stay : ∀ F : Nat → Prop, ¬ F b → Stays F w1 (setN w1 b (j * k) us) := fun F hF => setN_stays us F w1 b (j * k) hF
  refine ⟨fun i hi => ?_, setA cur (j * k) us, fun i => if i < j * k then V i else (us[i - j * k]?).getD .nilIface, fun i z => if i < j * k then G i z else G2 (i - j * k) z, setN_block us w1 b (j * k) cur T hb1, by rw [setA_size, hsz], hn, fun i hi => ?_, fun i d hi hdi => ?_, fun i z hi hz => ?_, fun i i' z hi hi' hii h1 h2 => ?_⟩
  · have : j * k + i < cur.size := by have := hin i hi; omega
    refine ⟨cur[j * k + i], ?_⟩
    simp [World.cell?, hb1, Array.getElem?_eq_getElem this]
  · by_cases e : i < j * k
    · rw [setA_out _ _ _ _ (Or.inl e)]; dsimp only; rw [if_pos e]; exact hV i e
    · have := setA_in us cur (j * k) (i - j * k) (by omega) hfit
      rw [show j * k + (i - j * k) = i by omega] at this
      rw [this]; dsimp only; rw [if_neg e, List.getElem?_eq_getElem (by omega)]; rfl
  · by_cases e : i < j * k
    · simp only [if_pos e]
      exact ((hD i d e hdi).keep hb).stays (stay _ (fun hh => by have := hG i b e hh; omega))
    · simp only [if_neg e]
      have he := hes (i - j * k) (by omega)
      rw [show j * k + (i - j * k) = i by omega, hdi] at he
      have hu : us[i - j * k]? = some ((us[i - j * k]?).getD .nilIface) := by rw [List.getElem?_eq_getElem (by omega)]; rfl
      exact (g1 _ d _ he.symm hu).stays (stay _ (fun hh => by have := g2 _ b (by omega) hh; omega))
  · rw [setN_size]
    by_cases e : i < j * k
    · simp only [if_pos e] at hz
      have := hG i z e hz
      have := hb.size
      omega
    · simp only [if_neg e] at hz
      have := g2 _ z (by omega) hz
      omega
  · by_cases ei : i < j * k
    · simp only [if_pos ei] at h1
      by_cases ej : i' < j * k
      · simp only [if_pos ej] at h2
        exact hd i i' z ei ej hii h1 h2
      · simp only [if_neg ej] at h2
        have := hG i z ei h1
        have := g2 _ z (by omega) h2
        omega
    · simp only [if_neg ei] at h1
      by_cases ej : i' < j * k
      · simp only [if_pos ej] at h2
        have := hG i' z ej h2
        have := g2 _ z (by omega) h1
        omega
      · simp only [if_neg ej] at h2
        exact g3 _ _ z (by omega) (by omega) (by omega) h1 h2
theorem FilD.full {w : World} {b k n c : Nat} {T : TypeId} {ds : List D} (h : FilD w b T k n c ds n) (hl : ds.length = n * k) (hm : c ≤ maxLen) : DO w (.rows T k n ds) (.slice (some ⟨b, 0, none⟩) n c) (fun g => b ≤ g ∧ g < w.heap.size) := by
  have hlt := h.lt
  obtain ⟨cur, V, G, hblk, hsz, hn, hV, hD, hG, hd⟩ := h
  refine .rows cur V G hblk hsz hn hm hl ⟨Nat.le_refl _, hlt⟩ hV (fun i d hi => hD i d (ds_lt hi hl) hi) (fun i z hi hz => ?_) hd
  have := hG i z hi hz
  exact ⟨⟨by omega, by omega⟩, by omega⟩
end Go.Proofs.Yteoeefmdfalnjaa
/- DatTy: Types as data: the cells of each, flat; from the trees of types to data and back. -/
namespace Go.Proofs.Yteoeefmdfalnjaa
open Go Go.RowKit

/-- Cells of structs, one behind the other. -/
theorem flat_at {α β : Type} (f : α → List β) (k : Nat) (hk : ∀ x, (f x).length = k) : ∀ (xs : List α) (j i : Nat), i < k → (xs.flatMap f)[j * k + i]? = (xs[j]?).bind fun x => (f x)[i]?
  | [], j, i, _ => by simp
  | x :: xs, 0, i, hi => by
    rw [Nat.zero_mul, Nat.zero_add, List.flatMap_cons, List.getElem?_append_left (by rw [hk]; exact hi)]; rfl
  | x :: xs, j + 1, i, hi => by
    have := flat_at f k hk xs j i hi
    rw [List.flatMap_cons, List.getElem?_append_right (by rw [hk, Nat.add_mul]; omega), hk, Nat.add_mul, Nat.one_mul, show j * k + k + i - k = j * k + i by omega, this]
    rfl
theorem flat_len {α β : Type} (f : α → List β) (k : Nat) (hk : ∀ x, (f x).length = k) (xs : List α) : (xs.flatMap f).length = xs.length * k := by
  induction xs with
  | nil => simp
  | cons x xs ih => rw [List.flatMap_cons, List.length_append, ih, hk, List.length_cons, Nat.add_mul]; omega

mutual
/-- The cells of a type; of types. -/
def Ty.ds : Ty → List D
  | .mk k ts => [.cell (.int .i64 k), .rows 41 2 ts.length (flatTy ts)]
def flatTy : List Ty → List D
  | [] => []
  | t :: ts => t.ds ++ flatTy ts
end
theorem Ty.ds_len (t : Ty) : t.ds.length = 2 := by cases t; rfl
theorem flatTy_eq (ts : List Ty) : flatTy ts = ts.flatMap Ty.ds := by
  induction ts with
  | nil => rfl
  | cons t ts ih => rw [flatTy, ih]; rfl
theorem flatTy_len (ts : List Ty) : (flatTy ts).length = ts.length * 2 := by rw [flatTy_eq, flat_len _ 2 Ty.ds_len]
theorem flatTy_at (ts : List Ty) (j : Nat) (h : j < ts.length) : (flatTy ts)[j * 2]? = some (.cell (.int .i64 ts[j].kind)) ∧ (flatTy ts)[j * 2 + 1]? = some (.rows 41 2 ts[j].args.length (flatTy ts[j].args)) := by
  have h0 := flat_at Ty.ds 2 Ty.ds_len ts j 0 (by omega)
  have h1 := flat_at Ty.ds 2 Ty.ds_len ts j 1 (by omega)
  rw [List.getElem?_eq_getElem h] at h0 h1
  rw [flatTy_eq]
  exact ⟨by rw [Nat.add_zero] at h0; rw [h0]; cases ts[j]; rfl, by rw [h1]; cases ts[j]; rfl⟩
theorem div2 {i n : Nat} (h : i < n * 2) : ∃ j, j < n ∧ (i = j * 2 ∨ i = j * 2 + 1) := ⟨i / 2, by omega, by omega⟩

/-- A slice of types as data. -/
abbrev tyD (ts : List Ty) : D := .rows 41 2 ts.length (flatTy ts)
theorem TS.dm {w : World} {C : Nat → Prop} {ts : List Ty} {v : Value} (h : TS w C ts v) : DM w C (tyD ts) v := by
  induction h with
  | nil a c => exact .nil _ _ a c
  | @cons ts b o c S h1 hc hm hC hb hk hs hr ih =>
    refine .rows (fun i => if i % 2 = 0 then .int .i64 ((ts[i / 2]?).map Ty.kind |>.getD 0) else S (i / 2)) h1 hc hm (flatTy_len ts) hC hb (fun i d hi => ?_) (fun i d hi => ?_)
    all_goals
      have hlt : i < ts.length * 2 := by rw [← flatTy_len]; exact (List.getElem?_eq_some_iff.1 hi).1
      obtain ⟨j, hj, e⟩ := div2 hlt
      have hx := List.getElem?_eq_getElem hj
      obtain ⟨f0, f1⟩ := flatTy_at ts j hj
    · rcases e with rfl | rfl
      · simp only [Nat.mul_mod_left, if_true, Nat.mul_div_cancel _ (by omega : 0 < 2), hx, Option.map_some, Option.getD_some]
        exact hk j _ hx
      · simp only [show (j * 2 + 1) % 2 = 1 by omega, show (j * 2 + 1) / 2 = j by omega, Nat.one_ne_zero, if_false]
        exact hs j _ hx
    · rcases e with rfl | rfl
      · simp only [Nat.mul_mod_left, if_true, Nat.mul_div_cancel _ (by omega : 0 < 2), hx, Option.map_some, Option.getD_some]
        rw [f0] at hi; cases hi
        exact .cell _
      · simp only [show (j * 2 + 1) % 2 = 1 by omega, show (j * 2 + 1) / 2 = j by omega, Nat.one_ne_zero, if_false]
        rw [f1] at hi; cases hi
        exact ih j _ hx
theorem DM.ts {w : World} {C : Nat → Prop} : ∀ (m : Nat) {ts : List Ty} {v : Value}, nodesS ts ≤ m → DM w C (tyD ts) v → TS w C ts v
  | m, [], v, _, h => by
    obtain ⟨a, c, rfl⟩ := h.form
    exact .nil a c
  | 0, t :: ts, v, hm, h => by simp only [nodesS, Ty.nodes_eq] at hm; omega
  | m + 1, t :: ts, v, hn, h => by
    have hne : (flatTy (t :: ts)).length = (t :: ts).length * 2 := flatTy_len _
    cases h with
    | @rows _ _ _ b o c _ V h1 hc hm hl hC hb hv hr =>
      refine .cons (fun j => V (j * 2 + 1)) h1 hc hm hC hb (fun j x hj => ?_) (fun j x hj => ?_) (fun j x hj => ?_)
      all_goals
        obtain ⟨hlt, rfl⟩ := List.getElem?_eq_some_iff.1 hj
        obtain ⟨f0, f1⟩ := flatTy_at (t :: ts) j hlt
      · have := (hr _ _ f0).val
        rw [hv _ _ f0, this]
      · exact hv _ _ f1
      · refine DM.ts m ?_ (hr _ _ f1)
        have := nodesS_at (t :: ts) j hlt
        omega
theorem OS.dO {w : World} {F : Nat → Prop} {ts : List Ty} {v : Value} (h : OS w ts v F) : DO w (tyD ts) v F := by
  induction h with
  | none F => exact .nil _ _ F
  | @row ts b c F K S G hrow hm hF hk hr hG hd ih =>
    obtain ⟨cur, hblk, hsz, hn, hat⟩ := hrow
    refine .rows cur (fun i => if i % 2 = 0 then .int .i64 (K (i / 2)) else S (i / 2)) (fun i z => i % 2 = 1 ∧ G (i / 2) z) hblk hsz hn hm (flatTy_len ts) hF (fun i hi => ?_) (fun i d hi => ?_) (fun i z hi hz => hG (i / 2) z (by omega) hz.2) (fun i j z hi hj hij h1 h2 => hd (i / 2) (j / 2) z (by omega) (by omega) (by omega) h1.2 h2.2)
    · obtain ⟨j, hj, e⟩ := div2 hi
      rcases e with rfl | rfl
      · simp only [Nat.mul_mod_left, if_true, Nat.mul_div_cancel _ (by omega : 0 < 2)]
        exact (hat j hj).1
      · simp only [show (j * 2 + 1) % 2 = 1 by omega, show (j * 2 + 1) / 2 = j by omega, Nat.one_ne_zero, if_false]
        exact (hat j hj).2
    · have hlt : i < ts.length * 2 := by rw [← flatTy_len]; exact (List.getElem?_eq_some_iff.1 hi).1
      obtain ⟨j, hj, e⟩ := div2 hlt
      have hx := List.getElem?_eq_getElem hj
      obtain ⟨f0, f1⟩ := flatTy_at ts j hj
      rcases e with rfl | rfl
      · rw [f0] at hi; cases hi
        simp only [Nat.mul_mod_left, if_true, Nat.mul_div_cancel _ (by omega : 0 < 2), hk j _ hx]
        exact .cell _ _
      · rw [f1] at hi; cases hi
        simp only [show (j * 2 + 1) % 2 = 1 by omega, show (j * 2 + 1) / 2 = j by omega, Nat.one_ne_zero, if_false]
        exact (ih j _ hx).mono (fun z hz => ⟨trivial, hz⟩)
theorem DO.os {w : World} : ∀ (m : Nat) {F : Nat → Prop} {ts : List Ty} {v : Value}, nodesS ts ≤ m → DO w (tyD ts) v F → OS w ts v F
  | m, F, ts, v, hn, h => by
    rcases h.inv with ⟨h0, _, rfl⟩ | ⟨b, c, cur, V, G, rfl, hblk, hsz, hnc, hm, hl, hF, hv, hr, hG, hd⟩
    · obtain rfl := List.eq_nil_of_length_eq_zero h0
      exact .none F
    · have hat : ∀ j, j < ts.length → cur[j * 2]? = some (.int .i64 ((ts[j]?).map Ty.kind |>.getD 0)) ∧ cur[j * 2 + 1]? = some (V (j * 2 + 1)) := fun j hj => by
        obtain ⟨f0, f1⟩ := flatTy_at ts j hj
        have h1 := hv (j * 2) (by omega)
        rw [(hr _ _ f0).val] at h1
        rw [List.getElem?_eq_getElem hj]
        exact ⟨h1, hv (j * 2 + 1) (by omega)⟩
      refine .row (fun j => (ts[j]?).map Ty.kind |>.getD 0) (fun j => V (j * 2 + 1)) (fun j => G (j * 2 + 1)) ⟨cur, hblk, hsz, hnc, hat⟩ hm hF (fun j x hj => by simp only [hj, Option.map_some, Option.getD_some]) (fun j x hj => ?_) (fun j z hj hz => hG _ z (by omega) hz) (fun i j z hi hj hij h1 h2 => hd _ _ z (by omega) (by omega) (by omega) h1 h2)
      obtain ⟨hlt, rfl⟩ := List.getElem?_eq_some_iff.1 hj
      have hle := nodesS_at ts j hlt
      match m, hn with
      | 0, hn => omega
      | m + 1, hn => exact DO.os m (by omega) (hr _ _ (flatTy_at ts j hlt).2)
end Go.Proofs.Yteoeefmdfalnjaa
/- Ctx: Contexts (slices of typings) in memory. -/
namespace Go.Proofs.Yteoeefmdfalnjaa
open Go Go.RowKit

/-- A typing: a name, a type, a level. -/
structure Tg where
  nm : ByteArray
  ty : Ty
  lv : Int
def Tg.ds (x : Tg) : List D := [.cell (.string x.nm), .cell (.int .i64 x.ty.kind), tyD x.ty.args, .cell (.int .i64 x.lv)]
theorem Tg.ds_len (x : Tg) : x.ds.length = 4 := rfl
abbrev flatCx (L : List Tg) : List D := L.flatMap Tg.ds
abbrev cxD (L : List Tg) : D := .rows 43 4 L.length (flatCx L)
theorem flatCx_len (L : List Tg) : (flatCx L).length = L.length * 4 := flat_len _ 4 Tg.ds_len L
theorem flatCx_at (L : List Tg) (j i : Nat) (h : j < L.length) (hi : i < 4) : (flatCx L)[j * 4 + i]? = (L[j].ds)[i]? := by
  rw [flat_at Tg.ds 4 Tg.ds_len L j i hi, List.getElem?_eq_getElem h]; rfl
/-- A context: typings whose types are small. -/
structure CX (w : World) (C : Nat → Prop) (L : List Tg) (v : Value) : Prop where
  dm : DM w C (cxD L) v
  ty : ∀ x ∈ L, nodesS x.ty.args ≤ 100
  nm : ∀ x ∈ L, x.nm.size ≤ 100
theorem CX.stays {w w' : World} {C : Nat → Prop} {L : List Tg} {v : Value} (h : CX w C L v) (hs : Stays C w w') : CX w' C L v := ⟨h.dm.stays hs, h.ty, h.nm⟩
theorem CX.mono {w : World} {C C' : Nat → Prop} {L : List Tg} {v : Value} (h : CX w C L v) (hC : ∀ z, C z → z < w.heap.size → C' z) : CX w C' L v := ⟨h.dm.mono hC, h.ty, h.nm⟩
/-- The cells of a typing. -/
structure At4 (w : World) (b o : Nat) (x : Tg) (q : Option Addr) (c : Nat) : Prop where
  nm : w.cell? ⟨b, o, none⟩ = some (.string x.nm)
  kind : w.cell? ⟨b, o + 1, none⟩ = some (.int .i64 x.ty.kind)
  args : w.cell? ⟨b, o + 2, none⟩ = some (.slice q x.ty.args.length c)
  lv : w.cell? ⟨b, o + 3, none⟩ = some (.int .i64 x.lv)
theorem cx_part {w0 : World} {C : Nat → Prop} {L : List Tg} {q : Option Addr} {d : Nat} (h : DM w0 C (cxD L) (.slice q L.length d)) (j : Nat) (hj : j < L.length) :
    ∃ (b o : Nat) (p : Option Addr) (c : Nat), q = some ⟨b, o, none⟩ ∧ C b ∧ b < w0.heap.size ∧ (∀ w', Stays C w0 w' → At4 w' b (o + j * 4) L[j] p c) ∧ TS w0 C L[j].ty.args (.slice p L[j].ty.args.length c) := by
  obtain ⟨b, o, V, rfl, hC, hb, hp⟩ := h.part (by rw [flatCx_len]; omega)
  have part : ∀ (i : Nat) (d : D), i < 4 → (L[j].ds)[i]? = some d → DM w0 C d (V (j * 4 + i)) ∧ ∀ w', Stays C w0 w' → w'.cell? ⟨b, o + j * 4 + i, none⟩ = some (V (j * 4 + i)) := fun i d hi hd => by
    obtain ⟨h1, h2⟩ := hp (j * 4 + i) d (by rw [flatCx_at L j i hj hi]; exact hd)
    exact ⟨h1, fun w' hw => by rw [Nat.add_assoc]; exact h2 w' hw⟩
  obtain ⟨a0, b0⟩ := part 0 _ (by omega) rfl
  obtain ⟨a1, b1⟩ := part 1 _ (by omega) rfl
  obtain ⟨a2, b2⟩ := part 2 _ (by omega) rfl
  obtain ⟨a3, b3⟩ := part 3 _ (by omega) rfl
  rw [a0.val] at b0
  rw [a1.val] at b1
  rw [a3.val] at b3
  obtain ⟨p, c, e2⟩ := a2.form
  rw [e2] at a2 b2
  exact ⟨b, o, p, c, rfl, hC, hb, fun w' hw => ⟨b0 w' hw, b1 w' hw, b2 w' hw, b3 w' hw⟩, a2.ts _ (Nat.le_refl _)⟩
theorem CX.form {w : World} {C : Nat → Prop} {L : List Tg} {v : Value} (h : CX w C L v) : ∃ q c, v = .slice q L.length c := h.dm.form
theorem cx_nil (w : World) (C : Nat → Prop) (a : Option Addr) (c : Nat) : CX w C [] (.slice a 0 c) := ⟨.nil _ _ a c, by simp, by simp⟩
/-- The four values of a typing, its type held in C. -/
def TgV (w : World) (C : Nat → Prop) (x : Tg) (us : List Value) : Prop := ∃ (p : Option Addr) (c : Nat), us = [.string x.nm, .int .i64 x.ty.kind, .slice p x.ty.args.length c, .int .i64 x.lv] ∧ TS w C x.ty.args (.slice p x.ty.args.length c)
theorem TgV.stays {w w' : World} {C : Nat → Prop} {x : Tg} {us : List Value} (h : TgV w C x us) (hs : Stays C w w') : TgV w' C x us := by
  obtain ⟨p, c, h1, h2⟩ := h
  exact ⟨p, c, h1, h2.stays hs⟩
theorem TgV.mono {w : World} {C C' : Nat → Prop} {x : Tg} {us : List Value} (h : TgV w C x us) (hC : ∀ z, C z → z < w.heap.size → C' z) : TgV w C' x us := by
  obtain ⟨p, c, h1, h2⟩ := h
  exact ⟨p, c, h1, h2.mono hC⟩
/-- A row of the call's own of typings. -/
structure RowCx (w : World) (base : Nat) (C : Nat → Prop) (L : List Tg) (v : Value) (xs : List Value) : Prop where
  own : w.ownsRow base 43 4 v L.length xs
  cells : ∀ j x, L[j]? = some x → TgV w C x ((xs.drop (j * 4)).take 4)
theorem RowCx.start (w : World) (base : Nat) (C : Nat → Prop) : RowCx w base C [] (.slice none 0 0) [] := ⟨World.ownsRow_nil _ _ _ _, by simp⟩
theorem RowCx.keep {w w' : World} {base : Nat} {C : Nat → Prop} {L : List Tg} {v : Value} {xs : List Value} (h : RowCx w base C L v xs) (hs : Stays C w w') (hv : ∀ g, v.ownBlock = some g → w'.heap[g]? = w.heap[g]?) : RowCx w' base C L v xs := by
  refine ⟨⟨h.own.1, ?_⟩, fun j x hj => (h.cells j x hj).stays hs⟩
  rcases h.own.2 with h0 | ⟨g, cap, cur, rfl, hg, hblk, r⟩
  · exact Or.inl h0
  · exact Or.inr ⟨g, cap, cur, rfl, hg, (hv g rfl).trans hblk, r⟩
theorem RowCx.app {w w' : World} {base : Nat} {C : Nat → Prop} {L : List Tg} {v : Value} {xs us : List Value} {x : Tg} {g cap : Nat} (h : RowCx w base C L v xs) (hA : Appd w w' base 43 4 v L.length xs us g cap) (hx : TgV w C x us) (hC : ∀ z, C z → z < w.heap.size ∧ v.ownBlock ≠ some z) :
    RowCx w' base C (L ++ [x]) (.slice (some ⟨g, 0, none⟩) (L.length + 1) cap) (xs ++ us) ∧ (∀ z, C z → z < w'.heap.size ∧ (Value.slice (some ⟨g, 0, none⟩) (L.length + 1) cap).ownBlock ≠ some z) := by
  have hst : Stays C w w' := ⟨hA.size, fun z hz hl => (hA.kept z hl (hC z hz).2).1⟩
  have hlx : xs.length = L.length * 4 := h.own.1
  have hlu : us.length = 4 := by obtain ⟨p, c, rfl, _⟩ := hx; rfl
  refine ⟨⟨by rw [List.length_append, List.length_singleton]; exact hA.own, fun j y hj => ?_⟩, fun z hz => ⟨Nat.lt_of_lt_of_le (hC z hz).1 hA.size, fun e => ?_⟩⟩
  · by_cases hjl : j < L.length
    · rw [List.getElem?_append_left hjl] at hj
      have h1 := (h.cells j y hj).stays hst
      rw [List.drop_append_of_le_length (by omega), List.take_append_of_le_length (by rw [List.length_drop]; omega)]
      exact h1
    · have hje : j = L.length := by
        have := (List.getElem?_eq_some_iff.1 hj).1
        rw [List.length_append, List.length_singleton] at this
        omega
      subst hje
      rw [List.getElem?_concat_length] at hj
      cases hj
      have h1 := hx.stays hst
      rw [← hlx, List.drop_left, List.take_of_length_le (by omega)]
      exact h1
  · simp only [Value.ownBlock, Option.some.injEq] at e
    exact (hA.kept z (hC z hz).1 (hC z hz).2).2 e
theorem RowCx.dm {w : World} {base : Nat} {C C' : Nat → Prop} {L : List Tg} {v : Value} {xs : List Value} (h : RowCx w base C L v xs) (hC : ∀ z, C z → C' z) (hv : ∀ g, v.ownBlock = some g → C' g) : DM w C' (cxD L) v := by
  rcases h.own.2 with ⟨rfl, h0⟩ | ⟨g, cap, cur, rfl, hg, hblk, h1, h2, h3, h4⟩
  · obtain rfl := List.eq_nil_of_length_eq_zero h0
    exact .nil _ _ _ _
  · have hlx : xs.length = L.length * 4 := h.own.1
    by_cases h0 : L.length = 0
    · obtain rfl := List.eq_nil_of_length_eq_zero h0
      exact .nil _ _ _ _
    have hcell : ∀ i, i < L.length * 4 → w.cell? ⟨g, 0 + i, none⟩ = some (xs.getD i undef) := fun i hi => by
      rw [Nat.zero_add, h.own.cellAt i (by omega), List.getD_eq_getElem?_getD, List.getElem?_eq_getElem (by omega)]; rfl
    refine .rows (fun i => xs.getD i undef) (by omega) h1 (Nat.le_trans h2 (by decide)) (flatCx_len L) (hv g rfl) (Array.getElem?_eq_some_iff.1 hblk).1 (fun i d hi => hcell i (by rw [← flatCx_len]; exact (List.getElem?_eq_some_iff.1 hi).1)) (fun i d hi => ?_)
    have hlt : i < L.length * 4 := by rw [← flatCx_len]; exact (List.getElem?_eq_some_iff.1 hi).1
    have hj : i / 4 < L.length := by omega
    have hx := List.getElem?_eq_getElem hj
    have hd : (L[i / 4].ds)[i % 4]? = some d := by rw [← flatCx_at L (i / 4) (i % 4) hj (by omega), show i / 4 * 4 + i % 4 = i by omega]; exact hi
    obtain ⟨p, c, hus, hts⟩ := h.cells (i / 4) _ hx
    have hval : xs.getD i undef = [Value.string L[i / 4].nm, .int .i64 L[i / 4].ty.kind, .slice p L[i / 4].ty.args.length c, .int .i64 L[i / 4].lv].getD (i % 4) undef := by
      rw [← hus, List.getD_eq_getElem?_getD, List.getD_eq_getElem?_getD, List.getElem?_take, if_pos (by omega), List.getElem?_drop, show i / 4 * 4 + i % 4 = i by omega]
    rw [hval]
    have hm : i % 4 = 0 ∨ i % 4 = 1 ∨ i % 4 = 2 ∨ i % 4 = 3 := by omega
    rcases hm with hm | hm | hm | hm
    all_goals
      rw [hm] at hd ⊢
      simp only [Tg.ds, List.getElem?_cons_zero, List.getElem?_cons_succ, Option.some.injEq] at hd
      subst hd
    · exact .cell _
    · exact .cell _
    · exact (hts.mono (fun z hz _ => hC z hz)).dm
    · exact .cell _
end Go.Proofs.Yteoeefmdfalnjaa
/- Gen1: Small facts of no program: a new block, three new blocks, a cell that stays. -/
namespace Go.Proofs.Yteoeefmdfalnjaa
open Go Go.RowKit

theorem al_below (w : World) (o : Obj) : Below w.heap.size w (w.alloc o) := (Below.refl _ w).alloc (Nat.le_refl _) o
theorem chain3 (w : World) (a b c : Obj) : ((((w.alloc a).alloc b).alloc c).heap[w.heap.size]? = some a ∧ (((w.alloc a).alloc b).alloc c).heap[w.heap.size + 1]? = some b ∧ (((w.alloc a).alloc b).alloc c).heap[w.heap.size + 1 + 1]? = some c) ∧
    (((w.alloc a).alloc b).alloc c).heap.size = w.heap.size + 3 ∧ Below w.heap.size w (((w.alloc a).alloc b).alloc c) := by
  refine ⟨⟨?_, ?_, ?_⟩, by simp, ((al_below w a).trans ((al_below _ b).mono (by simp))).trans ((al_below _ c).mono (by simp; omega))⟩
  · rw [Below.heap_alloc _ _ _ (by simp; omega), Below.heap_alloc _ _ _ (by simp)]; exact blk_new w a
  · rw [Below.heap_alloc _ _ _ (by simp)]
    have := blk_new (w.alloc a) b
    rwa [World.size_alloc] at this
  · have := blk_new ((w.alloc a).alloc b) c
    rwa [World.size_alloc, World.size_alloc] at this
theorem keepN {W w1 : World} {p : Addr} {v : Value} (hb1 : Below W.heap.size W w1) (h : W.cell? p = some v) : w1.cell? p = some v := (hb1.cell (World.block_lt_of_cell? W _ h)).trans h
end Go.Proofs.Yteoeefmdfalnjaa
